/- sweep: the files that nobody names are gone. -/
import Derived.Test.YtoceddpjkodfkaaQ3
namespace Go.Proofs.Ytoceddpjkodfkaa
open Go.RowKit
set_option linter.unusedVariables false
set_option linter.unusedSimpArgs false

theorem addId_mem (ids : List Int) (x y : Int) : (addId ids x).contains y = (ids.contains y || (y == x)) := by
  unfold addId
  by_cases e : y = x
  · subst e
    split <;> simp_all
  · split
    · simp [e]
    · simp [e]

theorem idsOf_mem (l : List (List Int × Int)) (x : Int) : (idsOf l).contains x = standsOf l x := by
  have h : ∀ (k : List (List Int × Int)) (acc : List Int), ((k.map (·.2)).foldl addId acc).contains x = (acc.contains x || standsOf k x) := by
    intro k
    induction k with
    | nil => intro acc; simp [standsOf]
    | cons p k ih =>
      intro acc
      rw [List.map_cons, List.foldl_cons, ih, addId_mem]
      simp only [standsOf, List.any_cons]
      rw [Bool.or_assoc]
      congr 2
      rw [Bool.eq_iff_iff]
      simp only [beq_iff_eq]
      exact eq_comm
  have := h l []
  simpa [idsOf] using this

def sweptOf (s : St) : St := { s with files := s.files.filter fun f => standsOf s.names f.1 || standsOf s.safe f.1 }

theorem stands_append (a b : List (List Int × Int)) (x : Int) : standsOf (a ++ b) x = (standsOf a x || standsOf b x) := by simp [standsOf]

theorem swept_rows (m : List FRow) (s : St) (h : m.map (·.2) = s.files) : (m.filter (stayP (idsOf (s.names ++ s.safe)))).map (·.2) = (sweptOf s).files := by
  unfold sweptOf
  simp only
  rw [← h, List.filter_map]
  congr 1
  apply List.filter_congr
  intro y _
  simp only [stayP, Function.comp]
  rw [idsOf_mem, stands_append]

/-- Below block number base the world is as it was, but for block B. -/
structure Beside (base B : Nat) (w w' : World) : Prop where
  os : w'.os = w.os
  tape : w'.tape = w.tape
  output : w'.output = w.output
  size : w.heap.size ≤ w'.heap.size
  block : ∀ k, k < base → k ≠ B → w'.heap[k]? = w.heap[k]?

theorem Beside.refl (base B : Nat) (w : World) : Beside base B w w := ⟨rfl, rfl, rfl, Nat.le_refl _, fun _ _ _ => rfl⟩
theorem Beside.trans {base B : Nat} {a b c : World} (h : Beside base B a b) (k : Beside base B b c) : Beside base B a c :=
  ⟨k.os.trans h.os, k.tape.trans h.tape, k.output.trans h.output, Nat.le_trans h.size k.size, fun i hi hn => (k.block i hi hn).trans (h.block i hi hn)⟩
theorem Below_beside {base B : Nat} {w w' : World} (h : Below w.heap.size w w') (hb : base ≤ w.heap.size) : Beside base B w w' := ⟨h.os, h.tape, h.output, h.size, fun k hk _ => h.block k (by omega)⟩
theorem Beside.grown {base B : Nat} {a w w' : World} {r : Option Nat} (h : Beside base B a w) (hg : w.grownBy w' r) (hB : base ≤ w.heap.size) (hr : ∀ k, r = some k → base ≤ k ∨ k = B) : Beside base B a w' :=
  h.trans ⟨hg.os, hg.tape, hg.output, hg.size, fun k hk hn => hg.block k (by omega) (fun e => by have := hr k e.symm; omega)⟩
theorem Beside.drew {base B : Nat} {a w : World} (h : Beside base B a w) : Beside base B a w.drew := ⟨h.os, h.tape, h.output, h.size, h.block⟩
/-- Where the block itself is not below base. -/
theorem Beside.below {base B : Nat} {w w' : World} (h : Beside base B w w') (hB : base ≤ B) : Below base w w' := ⟨h.os, h.tape, h.output, h.size, fun k hk => h.block k hk (by omega)⟩

/-- A state in a block of its own. -/
def OwnS (w : World) (base B : Nat) (s : St) : Prop := True ∧ ∃ vf vn vs m, w.heap[B]? = some (.cells #[.int .i64 s.cap, vf, vn, vs, .int .i64 s.next] 33) ∧ m.map (·.2) = s.files ∧ OwnF w base vf m ∧ OwnN w base 73 vn s.names ∧ OwnN w base 73 vs s.safe ∧ Apart vn vs ∧ In64 s.cap ∧ In64 s.next

theorem OwnS.up {w w' : World} {base B : Nat} {s : St} (h : OwnS w base B s) (hb : Below w.heap.size w w') : OwnS w' base B s := by
  obtain ⟨h0, vf, vn, vs, m, hb1, hm, h1, h2, h3, h4⟩ := h
  exact ⟨h0, vf, vn, vs, m, blk_up hb1 hb, hm, h1.up hb, h2.up hb, h3.up hb, h4⟩

theorem OwnF.shapes {w : World} {base : Nat} {v : Value} {m : List FRow} (h : OwnF w base v m) : ∀ y ∈ m, (∃ a n c, y.1 = .slice a n c) ∧ In64 y.2.1 := by
  intro y hy
  have h1 := h.2.1 y hy
  obtain ⟨a, c, e, _⟩ := (Octs.own h1.1 h1.2.1).slice
  exact ⟨⟨a, _, c, e⟩, h1.2.2.2.1⟩

theorem OwnF.filter {w w' : World} {base : Nat} {v v' : Value} {m : List FRow} (p : FRow → Bool) {r : Option Nat} (h : OwnF w base v m) (hv : OwnR w' base 71 3 v' ((m.filter p).map frow)) (hg : w.grownBy w' v.ownBlock) : OwnF w' base v' (m.filter p) := by
  refine ⟨hv, fun y hy => ?_, h.2.2.filter p⟩
  have h1 := h.2.1 y (List.mem_filter.1 hy).1
  exact ⟨h1.1.far hg (own_own_ne h1.1 h.1.2 (by decide)), h1.2⟩

theorem blk_two0 (w : World) (o1 o2 : Obj) : ((w.alloc o1).alloc o2).heap[w.heap.size]? = some o1 := blk_up (blk_new w o1) (up_al (Below.refl _ _) _)
theorem blk_two1 (w : World) (o1 o2 : Obj) : ((w.alloc o1).alloc o2).heap[w.heap.size + 1]? = some o2 := by
  have := blk_new (w.alloc o1) o2
  simpa using this

set_option maxHeartbeats 400000 in
theorem sweep_any (s : St) (base B : Nat) (w : World) (hS : OwnS w base B s) (hl1 : s.files.length ≤ 256) (hl2 : s.names.length ≤ 256) (hl3 : s.safe.length ≤ 256) (hbase : base ≤ w.heap.size) :
    Calls Try.prog 45 #[.pointer (some ⟨B, 0, none⟩)] w fun e w' => e = .returned (.tuple #[]) ∧ OwnS w' base B (sweptOf s) ∧ Beside base B w w' := by
  obtain ⟨hB, vf, vn, vs, m, hb, hm, of, on, os, hap, hi1, hi2⟩ := hS
  have hml : m.length ≤ 256 := by
    have := congrArg List.length hm
    rw [List.length_map] at this
    omega
  have HW : Hid (w.heap[B]? = some (.cells #[.int .i64 s.cap, vf, vn, vs, .int .i64 s.next] 33) ∧ m.map (·.2) = s.files ∧ OwnF w base vf m ∧ OwnN w base 73 vn s.names ∧ OwnN w base 73 vs s.safe ∧ Apart vn vs ∧ In64 s.cap ∧ In64 s.next) := ⟨hb, hm, of, on, os, hap, hi1, hi2⟩
  obtain ⟨a1, c1, e1, _, _⟩ := (NamesW.own on).len
  obtain ⟨a2, c2, e2, _, _⟩ := (NamesW.own os).len
  obtain ⟨a3, c3, e3, _, _⟩ := (Rws.own of.1).len
  rw [List.length_map] at e3
  subst e1
  subst e2
  subst e3
  have q1 := blk_cell hb 1 _ rfl
  have q2 := blk_cell hb 2 _ rfl
  have q3 := blk_cell hb 3 _ rfl
  have f1 := blk_frozen hb 1
  clear hb hm of on os hap hi1 hi2
  have HC : Hid (∀ (A : Nat) (X : World), Below w.heap.size w X → X.cell? ⟨A, 0, none⟩ = some (.slice a1 s.names.length c1) → X.cell? ⟨A, 1, none⟩ = some (.slice a2 s.safe.length c2) → Calls Try.prog 64 #[.slice (some ⟨A, 0, none⟩) 2 2] X fun e w' => ∃ mb, e = .returned (.map (some mb)) ∧ Hid (SetW w' mb (idsOf (s.names ++ s.safe))) ∧ Hid (Below X.heap.size X w') ∧ Hid (Below w.heap.size w w') ∧
      w'.cell? ⟨B, 2, none⟩ = some (.slice a1 s.names.length c1) ∧ w'.cell? ⟨B, 3, none⟩ = some (.slice a2 s.safe.length c2)) := by
    intro A X u1 c0 c1'
    have := numbers_any [(.slice a1 s.names.length c1, s.names), (.slice a2 s.safe.length c2, s.safe)] A 2 X (by simp) (by
        intro j hj
        have : j = 0 ∨ j = 1 := by simp at hj; omega
        rcases this with rfl | rfl
        · exact c0
        · exact c1') (by
        intro j hj
        have : j = 0 ∨ j = 1 := by simp at hj; omega
        rcases this with rfl | rfl
        · exact (NamesW.own HW.out.2.2.2.1).up u1
        · exact (NamesW.own HW.out.2.2.2.2.1).up u1) (by simp [allN, maxLen]; omega)
    refine this.mono ?_
    rintro e w1 ⟨rfl, hset, hb1⟩
    have e1 : allN [(Value.slice a1 s.names.length c1, s.names), (Value.slice a2 s.safe.length c2, s.safe)] = s.names ++ s.safe := by simp [allN]
    rw [e1] at hset
    have u2 := up_trans u1 hb1
    exact ⟨_, rfl, hset, hb1, u2, (u2.cell (World.block_lt_of_cell? w _ q2)).trans q2, (u2.cell (World.block_lt_of_cell? w _ q3)).trans q3⟩
  go_enter Try.func45, Try.ntmps45
  go_upto_region 0 with fail
  go_cut [2] from 2 to 12 (fun s2 wx => ∃ NB mb, s2 = .pointer (some ⟨NB, 0, none⟩) ∧ wx.cell? ⟨NB, 0, none⟩ = some (.map (some mb)) ∧ w.heap.size ≤ NB ∧ Hid (SetW wx mb (idsOf (s.names ++ s.safe))) ∧ Hid (Below w.heap.size w wx))
  case first =>
    have n1 := World.new_ne w _ q2
    have hBl := World.block_lt_of_cell? w _ q2
    have n2 : ¬ (B = w.heap.size + 1) := by simp at hBl; omega
    have n3 : ¬ (w.heap.size + 1 = B) := fun h => n2 h.symm
    clear hBl
    refine wp_region_held_drew (S := (fun w' => w'.cell? ⟨B, 2, none⟩ = some (.slice a1 s.names.length c1) ∧ w'.cell? ⟨B, 3, none⟩ = some (.slice a2 s.safe.length c2))) (by kernel_rfl) (by (try dsimp only); go_keep) (fun hHeld => ?_)
    refine wpAnyH_take (i := 0) (v := ?_) rfl (by kernel_rfl) (by kernel_rfl) (by kernel_rfl) (fun _ _ _ h => h) (Or.inl ⟨by kernel_rfl, ?_⟩) (by assumption) ?_
    rotate_left
    focus (intro w hSw; (try dsimp only at hSw); go_simp; (try with_reducible rfl); done)
    try simp only [Act.put, List.getElem_toArray, List.getElem_cons_zero, List.getElem_cons_succ, List.setIfInBounds_toArray, List.set_cons_zero, List.set_cons_succ]
    refine wpAnyH_take (i := 1) (v := ?_) rfl (by kernel_rfl) (by kernel_rfl) (by kernel_rfl) (fun _ _ _ h => h) (Or.inl ⟨by kernel_rfl, ?_⟩) (by assumption) ?_
    rotate_left
    focus (intro w hSw; (try dsimp only at hSw); go_simp; (try with_reducible rfl); done)
    try simp only [Act.put, List.getElem_toArray, List.getElem_cons_zero, List.getElem_cons_succ, List.setIfInBounds_toArray, List.set_cons_zero, List.set_cons_succ]
    refine wpAnyH_take (i := 2) (v := ?_) rfl (by kernel_rfl) (by kernel_rfl) (by kernel_rfl) (fun _ _ _ h => h) (Or.inl ⟨by kernel_rfl, ?_⟩) (by assumption) ?_
    rotate_left
    focus (intro w hSw; (try dsimp only at hSw); go_simp; (try with_reducible rfl); done)
    try simp only [Act.put, List.getElem_toArray, List.getElem_cons_zero, List.getElem_cons_succ, List.setIfInBounds_toArray, List.set_cons_zero, List.set_cons_succ]
    refine wpAnyH_take (i := 3) (v := ?_) rfl (by kernel_rfl) (by kernel_rfl) (by kernel_rfl) (fun _ _ _ h => h) (Or.inl ⟨by kernel_rfl, ?_⟩) (by assumption) ?_
    rotate_left
    focus (intro w hSw; (try dsimp only at hSw); go_simp; (try with_reducible rfl); done)
    try simp only [Act.put, List.getElem_toArray, List.getElem_cons_zero, List.getElem_cons_succ, List.setIfInBounds_toArray, List.set_cons_zero, List.set_cons_succ]
    refine wpAnyH_take (i := 4) (v := ?_) rfl (by kernel_rfl) (by kernel_rfl) (by kernel_rfl) (fun _ _ _ h => h) (Or.inl ⟨by kernel_rfl, ?_⟩) (by assumption) ?_
    rotate_left
    focus (intro w hSw; (try dsimp only at hSw); go_simp; (try with_reducible rfl); done)
    try simp only [Act.put, List.getElem_toArray, List.getElem_cons_zero, List.getElem_cons_succ, List.setIfInBounds_toArray, List.set_cons_zero, List.set_cons_succ]
    refine wpAnyH_take (i := 5) (v := ?_) rfl (by kernel_rfl) (by kernel_rfl) (by kernel_rfl) (fun _ _ _ h => h) (Or.inl ⟨by kernel_rfl, ?_⟩) (by assumption) ?_
    rotate_left
    focus (intro w hSw; (try dsimp only at hSw); go_simp; (try with_reducible rfl); done)
    try simp only [Act.put, List.getElem_toArray, List.getElem_cons_zero, List.getElem_cons_succ, List.setIfInBounds_toArray, List.set_cons_zero, List.set_cons_succ]
    refine wpAnyH_take (i := 6) (v := ?_) rfl (by kernel_rfl) (by kernel_rfl) (by kernel_rfl) (fun _ _ _ h => h) (Or.inl ⟨by kernel_rfl, ?_⟩) (by assumption) ?_
    rotate_left
    focus (intro w hSw; (try dsimp only at hSw); go_simp; (try with_reducible rfl); done)
    try simp only [Act.put, List.getElem_toArray, List.getElem_cons_zero, List.getElem_cons_succ, List.setIfInBounds_toArray, List.set_cons_zero, List.set_cons_succ]
    refine wpAnyH_take (i := 7) (v := ?_) rfl (by kernel_rfl) (by kernel_rfl) (by kernel_rfl) (fun _ _ _ h => h) (Or.inl ⟨by kernel_rfl, ?_⟩) (by assumption) ?_
    rotate_left
    focus (intro w hSw; (try dsimp only at hSw); go_simp; (try with_reducible rfl); done)
    try simp only [Act.put, List.getElem_toArray, List.getElem_cons_zero, List.getElem_cons_succ, List.setIfInBounds_toArray, List.set_cons_zero, List.set_cons_succ]
    refine wpAnyH_ready (rs := [8, 10]) (by kernel_rfl) (by simp) ?_
    refine AllReadyH.cons rfl (fun K hK => ?_) (AllReadyH.cons rfl (fun K hK => ?_) (AllReadyH.nil))
    · go_simp
      go_wp2_with fail
      refine hK.out _ _ (by (try dsimp only); go_keep) (fun hHeld => ?_)
      clear hK K
      try simp only [Act.put, List.getElem_toArray, List.getElem_cons_zero, List.getElem_cons_succ, List.setIfInBounds_toArray, List.set_cons_zero, List.set_cons_succ]
      refine wpAnyH_ready (rs := [9, 10]) (by kernel_rfl) (by simp) ?_
      refine AllReadyH.cons rfl (fun K hK => ?_) (AllReadyH.cons rfl (fun K hK => ?_) (AllReadyH.nil))
      · go_simp
        refine (HC.out w.heap.size (w.drew.alloc (.cells #[.slice a1 s.names.length c1, .slice a2 s.safe.length c2] 31)) (up_al (up_dr (Below.refl _ _)) _) (blk_cell (blk_new w.drew (.cells #[.slice a1 s.names.length c1, .slice a2 s.safe.length c2] 31)) 0 _ rfl) (blk_cell (blk_new w.drew (.cells #[.slice a1 s.names.length c1, .slice a2 s.safe.length c2] 31)) 1 _ rfl)).mono ?_
        rintro e w' ⟨mb, rfl, hset, hbx, hbw, z2, z3⟩
        go_wp2_with fail
        refine hK.out _ _ (by (try dsimp only); go_keep) (fun hHeld => ?_)
        clear hK K
        try simp only [Act.put, List.getElem_toArray, List.getElem_cons_zero, List.getElem_cons_succ, List.setIfInBounds_toArray, List.set_cons_zero, List.set_cons_succ]
        refine wpAnyH_ready (rs := [10]) (by kernel_rfl) (by simp) ?_
        refine AllReadyH.cons rfl (fun K hK => ?_) AllReadyH.nil
        go_simp
        go_wp2_with fail
        refine hK.out _ _ (by (try dsimp only); go_keep) (fun hHeld => ?_)
        clear hK K
        try simp only [Act.put, List.getElem_toArray, List.getElem_cons_zero, List.getElem_cons_succ, List.setIfInBounds_toArray, List.set_cons_zero, List.set_cons_succ]
        refine wpAnyH_ready (rs := [11]) (by kernel_rfl) (by simp) ?_
        refine AllReadyH.cons rfl (fun K hK => ?_) AllReadyH.nil
        go_simp
        go_wp2_with fail
        refine hK.out _ _ (by (try dsimp only); go_keep) (fun hHeld => ?_)
        clear hK K
        try simp only [Act.put, List.getElem_toArray, List.getElem_cons_zero, List.getElem_cons_succ, List.setIfInBounds_toArray, List.set_cons_zero, List.set_cons_succ]
        refine wpAnyH_done (by kernel_rfl) ?_ _
        go_wp2_with fail
        go_meet
        case rel =>
          exact ⟨w'.heap.size, mb, rfl, blk_cell (blk_new w' (.cells #[.map (some mb)] 109)) 0 _ rfl, hbw.out.size, hset.out.up (up_al (Below.refl _ _) _), up_al hbw.out _⟩
      · go_simp
        go_wp2_with fail
        refine hK.out _ _ (by (try dsimp only); go_keep) (fun hHeld => ?_)
        clear hK K
        try simp only [Act.put, List.getElem_toArray, List.getElem_cons_zero, List.getElem_cons_succ, List.setIfInBounds_toArray, List.set_cons_zero, List.set_cons_succ]
        refine wpAnyH_ready (rs := [9]) (by kernel_rfl) (by simp) ?_
        refine AllReadyH.cons rfl (fun K hK => ?_) AllReadyH.nil
        go_simp
        refine (HC.out w.heap.size ((w.drew.alloc (.cells #[.slice a1 s.names.length c1, .slice a2 s.safe.length c2] 31)).alloc (.cells #[.map none] 109)) (up_al (up_al (up_dr (Below.refl _ _)) _) _) (blk_cell (blk_two0 w.drew (.cells #[.slice a1 s.names.length c1, .slice a2 s.safe.length c2] 31) (.cells #[.map none] 109)) 0 _ rfl) (blk_cell (blk_two0 w.drew (.cells #[.slice a1 s.names.length c1, .slice a2 s.safe.length c2] 31) (.cells #[.map none] 109)) 1 _ rfl)).mono ?_
        rintro e w' ⟨mb, rfl, hset, hbx, hbw, z2, z3⟩
        have zb := blk_up (blk_two1 w.drew (.cells #[.slice a1 s.names.length c1, .slice a2 s.safe.length c2] 31) (.cells #[.map none] 109)) hbx.out
        have zc : w'.cell? ⟨w.heap.size + 1, 0, none⟩ = some (.map none) := blk_cell zb 0 _ rfl
        have zf : w'.frozen? ⟨w.heap.size + 1, 0, none⟩ = false := blk_frozen zb 0
        clear zb
        go_wp2_with fail
        refine hK.out _ _ (by (try dsimp only); go_keep) (fun hHeld => ?_)
        clear hK K
        try simp only [Act.put, List.getElem_toArray, List.getElem_cons_zero, List.getElem_cons_succ, List.setIfInBounds_toArray, List.set_cons_zero, List.set_cons_succ]
        refine wpAnyH_ready (rs := [11]) (by kernel_rfl) (by simp) ?_
        refine AllReadyH.cons rfl (fun K hK => ?_) AllReadyH.nil
        go_simp
        go_wp2_with fail
        refine hK.out _ _ (by (try dsimp only); go_keep) (fun hHeld => ?_)
        clear hK K
        try simp only [Act.put, List.getElem_toArray, List.getElem_cons_zero, List.getElem_cons_succ, List.setIfInBounds_toArray, List.set_cons_zero, List.set_cons_succ]
        refine wpAnyH_done (by kernel_rfl) ?_ _
        go_wp2_with fail
        go_meet
        case rel =>
          have g1 := grown_set w' ⟨w.heap.size + 1, 0, none⟩ (.map (some mb))
          have hn : some mb ≠ some (w.heap.size + 1) := by
            intro q
            injection q with q
            obtain ⟨D, ⟨es, clock, hh, _⟩, _⟩ := hset.out
            rw [q] at hh
            simp [World.cell?, hh] at zc
          exact ⟨w.heap.size + 1, mb, rfl, World.cell?_setCell_same (h := zc) .., by omega, hset.out.kept g1 hn, hbw.out.grown g1 hbw.out.size (fun j hj => by injection hj with hj; rw [← hj]; first | exact Nat.le_succ _ | exact Nat.le_refl _)⟩
    · go_simp
      go_wp2_with fail
      refine hK.out _ _ (by (try dsimp only); go_keep) (fun hHeld => ?_)
      clear hK K
      try simp only [Act.put, List.getElem_toArray, List.getElem_cons_zero, List.getElem_cons_succ, List.setIfInBounds_toArray, List.set_cons_zero, List.set_cons_succ]
      refine wpAnyH_ready (rs := [8]) (by kernel_rfl) (by simp) ?_
      refine AllReadyH.cons rfl (fun K hK => ?_) AllReadyH.nil
      go_simp
      go_wp2_with fail
      refine hK.out _ _ (by (try dsimp only); go_keep) (fun hHeld => ?_)
      clear hK K
      try simp only [Act.put, List.getElem_toArray, List.getElem_cons_zero, List.getElem_cons_succ, List.setIfInBounds_toArray, List.set_cons_zero, List.set_cons_succ]
      refine wpAnyH_ready (rs := [9]) (by kernel_rfl) (by simp) ?_
      refine AllReadyH.cons rfl (fun K hK => ?_) AllReadyH.nil
      go_simp
      refine (HC.out (w.heap.size + 1) ((w.drew.alloc (.cells #[.map none] 109)).alloc (.cells #[.slice a1 s.names.length c1, .slice a2 s.safe.length c2] 31)) (up_al (up_al (up_dr (Below.refl _ _)) _) _) (blk_cell (blk_two1 w.drew (.cells #[.map none] 109) (.cells #[.slice a1 s.names.length c1, .slice a2 s.safe.length c2] 31)) 0 _ rfl) (blk_cell (blk_two1 w.drew (.cells #[.map none] 109) (.cells #[.slice a1 s.names.length c1, .slice a2 s.safe.length c2] 31)) 1 _ rfl)).mono ?_
      rintro e w' ⟨mb, rfl, hset, hbx, hbw, z2, z3⟩
      have zb := blk_up (blk_two0 w.drew (.cells #[.map none] 109) (.cells #[.slice a1 s.names.length c1, .slice a2 s.safe.length c2] 31)) hbx.out
      have zc : w'.cell? ⟨w.heap.size, 0, none⟩ = some (.map none) := blk_cell zb 0 _ rfl
      have zf : w'.frozen? ⟨w.heap.size, 0, none⟩ = false := blk_frozen zb 0
      clear zb
      go_wp2_with fail
      refine hK.out _ _ (by (try dsimp only); go_keep) (fun hHeld => ?_)
      clear hK K
      try simp only [Act.put, List.getElem_toArray, List.getElem_cons_zero, List.getElem_cons_succ, List.setIfInBounds_toArray, List.set_cons_zero, List.set_cons_succ]
      refine wpAnyH_ready (rs := [11]) (by kernel_rfl) (by simp) ?_
      refine AllReadyH.cons rfl (fun K hK => ?_) AllReadyH.nil
      go_simp
      go_wp2_with fail
      refine hK.out _ _ (by (try dsimp only); go_keep) (fun hHeld => ?_)
      clear hK K
      try simp only [Act.put, List.getElem_toArray, List.getElem_cons_zero, List.getElem_cons_succ, List.setIfInBounds_toArray, List.set_cons_zero, List.set_cons_succ]
      refine wpAnyH_done (by kernel_rfl) ?_ _
      go_wp2_with fail
      go_meet
      case rel =>
        have g1 := grown_set w' ⟨w.heap.size, 0, none⟩ (.map (some mb))
        have hn : some mb ≠ some (w.heap.size) := by
          intro q
          injection q with q
          obtain ⟨D, ⟨es, clock, hh, _⟩, _⟩ := hset.out
          rw [q] at hh
          simp [World.cell?, hh] at zc
        exact ⟨w.heap.size, mb, rfl, World.cell?_setCell_same (h := zc) .., by omega, hset.out.kept g1 hn, hbw.out.grown g1 hbw.out.size (fun j hj => by injection hj with hj; rw [← hj]; first | exact Nat.le_succ _ | exact Nat.le_refl _)⟩
  case rest =>
  obtain ⟨NB, mb, rfl, zc, hNB, hset, up⟩ := hcut
  have HB : Hid (wc.heap[B]? = some (.cells #[.int .i64 s.cap, .slice a3 m.length c3, .slice a1 s.names.length c1, .slice a2 s.safe.length c2, .int .i64 s.next] 33)) := blk_up HW.out.1 up.out
  have HF : Hid (OwnF wc base (.slice a3 m.length c3) m) := HW.out.2.2.1.up up.out
  have HN : Hid (OwnN wc base 73 (.slice a1 s.names.length c1) s.names ∧ OwnN wc base 73 (.slice a2 s.safe.length c2) s.safe) := ⟨HW.out.2.2.2.1.up up.out, HW.out.2.2.2.2.1.up up.out⟩
  clear q1 q2 q3 f1
  have q1 := blk_cell HB.out 1 _ rfl
  have hne : (Value.slice a3 m.length c3).ownBlock ≠ some NB := by
    intro q
    have := (HW.out.2.2.1.1.2.lt NB q).2
    omega
  go_wp2_with fail
  refine (deleteF_any m _ (idsOf (s.names ++ s.safe)) mb NB base wc HF.out.1 HF.out.shapes hml hset.out zc hne (Nat.le_trans hbase up.out.size)).mono ?_
  rintro e w1 ⟨v', rfl, ho, hg, hob⟩
  obtain ⟨a4, c4, e4, _, _⟩ := (Rws.own ho).len
  rw [List.length_map] at e4
  have hnB : some B ≠ (Value.slice a3 m.length c3).ownBlock := by
    have := own_blk_ne HF.out.1.2 HB.out (by decide)
    rcases this with h | h
    · rw [h]; simp
    · exact fun q => h q.symm
  have HB1 : Hid (w1.heap[B]? = some (.cells #[.int .i64 s.cap, .slice a3 m.length c3, .slice a1 s.names.length c1, .slice a2 s.safe.length c2, .int .i64 s.next] 33)) := blk_grown HB.out hg hnB
  have HF1 : Hid (OwnF w1 base v' (m.filter (stayP (idsOf (s.names ++ s.safe))))) := HF.out.filter (r := none) _ ho hg
  have HN1 : Hid (OwnN w1 base 73 (.slice a1 s.names.length c1) s.names ∧ OwnN w1 base 73 (.slice a2 s.safe.length c2) s.safe) := ⟨HN.out.1.far hg (own_own_ne HN.out.1.2.2 HF.out.1.2 (by decide)), HN.out.2.far hg (own_own_ne HN.out.2.2.2 HF.out.1.2 (by decide))⟩
  have up1 : Hid (Beside base B w w1) := (Below_beside up.out hbase).grown hg (Nat.le_trans hbase up.out.size) (fun j hj => .inl (HF.out.1.2.lt j hj).1)
  clear ho hg hob zc hne hnB q1
  subst e4
  have q1 := blk_cell HB1.out 1 _ rfl
  have f1 := blk_frozen HB1.out 1
  go_wp2_with fail
  go_end0
  have g5 := grown_set w1 ⟨B, 1, none⟩ (.slice a4 (m.filter (stayP (idsOf (s.names ++ s.safe)))).length c4)
  refine ⟨rfl, ⟨hB, _, _, _, _, blk_set HB1.out 1 _, swept_rows m s HW.out.2.1, ?_, ?_, ?_, HW.out.2.2.2.2.2.1, HW.out.2.2.2.2.2.2.1, HW.out.2.2.2.2.2.2.2⟩, ?_⟩
  · exact HF1.out.far g5 (own_blk_ne HF1.out.1.2 HB1.out (by decide)) (fun y hy => own_blk_ne (HF1.out.2.1 y hy).1 HB1.out (by decide))
  · exact HN1.out.1.far g5 (own_blk_ne HN1.out.1.2.2 HB1.out (by decide))
  · exact HN1.out.2.far g5 (own_blk_ne HN1.out.2.2.2 HB1.out (by decide))
  · exact up1.out.grown g5 (Nat.le_trans hbase up1.out.size) (fun j hj => by injection hj with hj; rw [← hj]; exact .inr rfl)
end Go.Proofs.Ytoceddpjkodfkaa
