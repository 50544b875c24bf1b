
import Derived.Test.YtnchjlimkgbfpaaGreatDoorDEdI
import Derived.Test.YtnchjlimkgbfpaaGreatDoorE33
namespace Go.Proofs.YtnchjlimkgbfpaaGreatDoor
open Go.RowKit
set_option linter.unusedVariables false
set_option maxRecDepth 20000
set_option linter.unusedSimpArgs false
theorem ids_goes {pre : List Int} {s s' : List Int × Int} {n k : Nat} {v : Int} {T : List Int × (List Int × Int)} (h : (pre ++ (idsS (n - k) s).1, (idsS (n - k) s).2) = T) (hk : k < n) (hv : numS s = (v, s')) : ((pre ++ [v]) ++ (idsS (n - (k + 1)) s').1, (idsS (n - (k + 1)) s').2) = T := by
  rw [← h, show n - k = (n - (k + 1)) + 1 by omega]
  simp only [idsS, hv]
  simp
theorem mets_goes {pre : List Me} {s s' : List Int × Int} {n k : Nat} {v : Me} {T : List Me × (List Int × Int)} (h : (pre ++ (metsS (n - k) s).1, (metsS (n - k) s).2) = T) (hk : k < n) (hv : metS s = (v, s')) : ((pre ++ [v]) ++ (metsS (n - (k + 1)) s').1, (metsS (n - (k + 1)) s').2) = T := by
  rw [← h, show n - k = (n - (k + 1)) + 1 by omega]
  simp only [metsS, hv]
  simp
theorem EdI.held3 {W wr w' : World} {BB R NE NZ : Nat} {s : List Int × Int} {ad am : Option Addr} {nd cd nm cm : Nat} {ids : List Int} {ms : List Me} {sq nx : Int} (h : EdI W wr BB R NE NZ s ad nd cd ids am nm cm ms sq nx) (hg : wr.grownBy w' (Value.slice ad nd cd).ownBlock) : w'.heap[NE]? = some (.cells #[.slice ad nd cd, .slice am nm cm, .int .i64 sq, .int .i64 nx] 42) := by
  have n1 : (Value.slice ad nd cd).ownBlock ≠ some NE := fun q => by
    rcases own_blk_ne h.od.2 h.be (by decide) with k | k
    · rw [k] at q; cases q
    · exact k q
  exact blk_grown h.be hg (fun q => n1 q.symm)
theorem EdI.held65 {W wr w' : World} {BB R NE NZ : Nat} {s : List Int × Int} {ad am : Option Addr} {nd cd nm cm : Nat} {ids : List Int} {ms : List Me} {sq nx : Int} (h : EdI W wr BB R NE NZ s ad nd cd ids am nm cm ms sq nx) (hg : wr.grownBy w' (Value.slice am nm cm).ownBlock) : w'.heap[NE]? = some (.cells #[.slice ad nd cd, .slice am nm cm, .int .i64 sq, .int .i64 nx] 42) := by
  have n1 : (Value.slice am nm cm).ownBlock ≠ some NE := fun q => by
    rcases own_blk_ne h.om.2 h.be (by decide) with k | k
    · rw [k] at q; cases q
    · exact k q
  exact blk_grown h.be hg (fun q => n1 q.symm)
theorem EdI.len3 {W wr : World} {BB R NE NZ : Nat} {s : List Int × Int} {ad am : Option Addr} {nd cd nm cm : Nat} {ids : List Int} {ms : List Me} {sq nx : Int} (h : EdI W wr BB R NE NZ s ad nd cd ids am nm cm ms sq nx) : ids.length = nd ∧ ms.length = nm := by
  obtain ⟨a, c, e, _, _⟩ := (Rws.own h.od).len
  obtain ⟨a', c', e', _, _⟩ := (Rws.own h.om).len
  simp only [Value.slice.injEq, List.length_map] at e e'
  exact ⟨e.2.1.symm, e'.2.1.symm⟩
set_option maxHeartbeats 4000000 in
set_option maxRecDepth 100000 in
theorem edit_any (BB R : Nat) (s s0 s1 s2 s3 s4 s5 : List Int × Int) (sq nx : Int) (n m : Nat) (ids : List Int) (ms : List Me) (W : World) (h : RDI BB W R s) (hBW : BB ≤ W.heap.size)
    (e0 : numS s = (sq, s0)) (e1 : numS s0 = (nx, s1)) (e2 : cntS s1 = ((n : Int), s2)) (e3 : idsS n s2 = (ids, s3)) (e4 : cntS s3 = ((m : Int), s4)) (e5 : metsS m s4 = (ms, s5)) (hn : n ≤ 256) (hm : m ≤ 256) :
    Calls Tryz.prog 173 #[.pointer (some ⟨R, 0, none⟩)] W fun e w' => ∃ ad nd cd am nm cm, e = .returned (.agg #[.slice ad nd cd, .slice am nm cm, .int .i64 sq, .int .i64 nx]) ∧ Hid (OwnR w' W.heap.size 3 1 (.slice ad nd cd) (ids.map irow)) ∧ Hid (OwnR w' W.heap.size 148 5 (.slice am nm cm) (ms.map meRow)) ∧ Hid (RDI BB w' R s5) ∧ Hid (W.grownBy w' (some R)) := by
  have HNU : Hid (∀ s' W', RDI BB W' R s' → Calls Tryz.prog 195 #[.pointer (some ⟨R, 0, none⟩)] W' fun e w' => e = .returned (.int .i64 (numS s').1) ∧ Hid (RDI BB w' R (numS s').2) ∧ Hid (W'.grownBy w' (some R))) := fun s' W' h' => number_any BB R s' W' h'
  have HCN : Hid (∀ s' W', RDI BB W' R s' → Calls Tryz.prog 196 #[.pointer (some ⟨R, 0, none⟩)] W' fun e w' => e = .returned (.int .i64 (cntS s').1) ∧ Hid (RDI BB w' R (cntS s').2) ∧ Hid (W'.grownBy w' (some R))) := fun s' W' h' => count_any BB R s' W' h'
  have HME : Hid (∀ s' W', RDI BB W' R s' → Calls Tryz.prog 197 #[.pointer (some ⟨R, 0, none⟩)] W' fun e w' => e = .returned (.agg #[.int .i64 (metS s').1.id, .int .i64 (metS s').1.lvl, .int .i64 (metS s').1.cnt, .string (metS s').1.low, .string (metS s').1.high]) ∧ Hid (RDI BB w' R (metS s').2) ∧ Hid (W'.grownBy w' (some R))) := fun s' W' h' => meta_any BB R s' W' h'
  have HR : Hid (R < W.heap.size) := by obtain ⟨_, a, n, c, hb, _⟩ := h; exact blk_lt hb
  have C0 := hid (HNU.out s)
  have C1 := hid (HNU.out s0)
  have C2 := hid (HCN.out s1)
  have C4 := hid (HCN.out s3)
  rw [e0] at C0
  rw [e1] at C1
  rw [e2] at C2
  rw [e4] at C4
  simp only at C0 C1 C2 C4
  have HT3 : Hid (idsS n s2 = (ids, s3)) := e3
  have HT5 : Hid (metsS m s4 = (ms, s5)) := e5
  clear e0 e1 e2 e3 e4 e5 HCN
  have hsz : (W.alloc (.cells #[.slice none 0 0, .slice none 0 0, .int .i64 0, .int .i64 0] 42)).heap.size = W.heap.size + 1 := by simp
  have BZ : Hid (((W.alloc (.cells #[.slice none 0 0, .slice none 0 0, .int .i64 0, .int .i64 0] 42)).alloc (.cells #[.slice none 0 0, .slice none 0 0, .int .i64 0, .int .i64 0] 42)).heap[W.heap.size]? = some (.cells #[.slice none 0 0, .slice none 0 0, .int .i64 0, .int .i64 0] 42)) := blk_up (blk_new _ _) (up_alloc _ _)
  have BE : Hid (((W.alloc (.cells #[.slice none 0 0, .slice none 0 0, .int .i64 0, .int .i64 0] 42)).alloc (.cells #[.slice none 0 0, .slice none 0 0, .int .i64 0, .int .i64 0] 42)).heap[W.heap.size + 1]? = some (.cells #[.slice none 0 0, .slice none 0 0, .int .i64 0, .int .i64 0] 42)) := by
    have := blk_new (W.alloc (.cells #[.slice none 0 0, .slice none 0 0, .int .i64 0, .int .i64 0] 42)) (.cells #[.slice none 0 0, .slice none 0 0, .int .i64 0, .int .i64 0] 42)
    rw [hsz] at this
    exact this
  have EI : Hid (EdI W ((W.alloc (.cells #[.slice none 0 0, .slice none 0 0, .int .i64 0, .int .i64 0] 42)).alloc (.cells #[.slice none 0 0, .slice none 0 0, .int .i64 0, .int .i64 0] 42)) BB R (W.heap.size + 1) W.heap.size s none 0 0 [] none 0 0 [] 0 0) :=
    ⟨rd_kept h (up_al (up_alloc _ _) _), BE.out, BZ.out, OwnR.nil _ _ _ _, OwnR.nil _ _ _ _, grown_up (up_al (up_alloc _ _) _) _, HR.out, Nat.le_succ _, Nat.le_refl _, by omega, hBW⟩
  obtain ⟨w0, hw0⟩ : ∃ w0, w0 = ((W.alloc (.cells #[.slice none 0 0, .slice none 0 0, .int .i64 0, .int .i64 0] 42)).alloc (.cells #[.slice none 0 0, .slice none 0 0, .int .i64 0, .int .i64 0] 42)) := ⟨_, rfl⟩
  have HW0 : Hid (((W.alloc (.cells #[.slice none 0 0, .slice none 0 0, .int .i64 0, .int .i64 0] 42)).alloc (.cells #[.slice none 0 0, .slice none 0 0, .int .i64 0, .int .i64 0] 42)) = w0) := hw0.symm
  rw [← hw0] at EI
  clear hw0 h BZ BE hsz
  go_enter Tryz.func173, Tryz.ntmps173
  go_upto_region 2 with fail
  rw [HW0.out]
  clear HW0
  generalize W.heap.size + 1 = NE at *
  generalize hNZ : W.heap.size = NZ at *
  replace hNZ := hid hNZ
  go_wp2_with fail
  refine (C0.out w0 EI.out.rd).mono ?_
  rintro e x0 ⟨rfl, J0, K0⟩
  have F0 := hid (EI.out.read J0.out K0.out)
  clear EI J0 K0 C0
  have b0 := blk_cell F0.out.be 2 _ rfl
  have f0 := blk_frozen F0.out.be 2
  have F1 : Hid (EdI W (x0.setCell ⟨NE, 2, none⟩ (.int .i64 sq)) BB R NE NZ s0 none 0 0 [] none 0 0 [] sq 0) := F0.out.put 2 (.int .i64 sq) rfl F0.out.od F0.out.om
  generalize hy0 : x0.setCell ⟨NE, 2, none⟩ (.int .i64 sq) = y0 at *
  go_upto_region 3 with fail
  try rw [hy0]
  clear hy0 b0 f0 F0
  go_wp2_with fail
  refine (C1.out y0 F1.out.rd).mono ?_
  rintro e x1 ⟨rfl, J0, K0⟩
  have F2 := hid (F1.out.read J0.out K0.out)
  clear F1 J0 K0 C1
  have b0 := blk_cell F2.out.be 3 _ rfl
  have f0 := blk_frozen F2.out.be 3
  have F3 : Hid (EdI W (x1.setCell ⟨NE, 3, none⟩ (.int .i64 nx)) BB R NE NZ s1 none 0 0 [] none 0 0 [] sq nx) := F2.out.put 3 (.int .i64 nx) rfl F2.out.od F2.out.om
  generalize hy1 : x1.setCell ⟨NE, 3, none⟩ (.int .i64 nx) = y1 at *
  go_upto_region 4 with fail
  try rw [hy1]
  clear hy1 b0 f0 F2
  go_wp2_with fail
  refine (C2.out y1 F3.out.rd).mono ?_
  rintro e x2 ⟨rfl, J0, K0⟩
  have F4 := hid (F3.out.read J0.out K0.out)
  clear F3 J0 K0 C2
  go_wp2_with fail
  go_loopw [12] (fun i wr => ∃ (k : Nat) (s' : List Int × Int) (ad : Option Addr) (cd : Nat) (pre : List Int), k ≤ n ∧ i = .int .i64 k ∧ Hid (EdI W wr BB R NE NZ s' ad k cd pre none 0 0 [] sq nx) ∧ Hid ((pre ++ (idsS (n - k) s').1, (idsS (n - k) s').2) = (ids, s3))) (fun i _ => n - (intOf i).toNat)
  case atStart => exact ⟨0, s2, none, 0, [], Nat.zero_le _, rfl, F4, HT3⟩
  case round =>
    clear F4 HT3
    obtain ⟨k, s', AA, CC, pre, hk, rfl, HE, HT⟩ := hrel
    by_cases hlt : k < n
    · have hlt' : (k : Int) < (n : Int) := by omega
      obtain ⟨⟨v, t'⟩, hv⟩ : ∃ p, numS s' = p := ⟨_, rfl⟩
      have CV := hid (HNU.out s')
      rw [hv] at CV
      simp only at CV
      have HT' := hid (ids_goes HT.out hlt hv)
      have hpl := HE.out.len3.1
      have HBN : Hid ((((pre.map irow).length + 1) + ((pre.map irow).length + 1) / 4 + 192) * 8 ≤ 281474976710656 ∧ (pre.map irow).length + 1 ≤ maxLen) := by
        unfold Hid maxLen
        rw [List.length_map, hpl]
        omega
      have HON : Hid (∀ cs ∈ [[Value.int .i64 v]], ∀ u ∈ cs, u.oneCell' = true) := by
        intro cs hcs u hu
        simp at hcs
        subst hcs
        simp at hu
        subst hu
        rfl
      have HSh : Hid (∀ (w6 : World) (v6 : Value), OwnR w6 W.heap.size 3 1 v6 (pre.map irow ++ [[.int .i64 v]]) → ∃ a c, v6 = .slice a (k + 1) c) := by
        intro w6 v6 h
        obtain ⟨a, c, e, _, _⟩ := (Rws.own h).len
        rw [List.length_append, List.length_map, hpl] at e
        exact ⟨a, c, e⟩
      have HOW : Hid (∀ (w' : World) (t : List Int × Int), EdI W w' BB R NE NZ t AA k CC pre none 0 0 [] sq nx → OwnR w' W.heap.size 3 1 (.slice AA k CC) (pre.map irow)) := fun _ _ h => h.od
      have HAP : Hid (∀ (w1 w6 : World) (t : List Int × Int), EdI W w1 BB R NE NZ t AA k CC pre none 0 0 [] sq nx → w1.grownBy w6 (Value.slice AA k CC).ownBlock → w6.heap[NE]? = some (.cells #[.slice AA k CC, .slice none 0 0, .int .i64 sq, .int .i64 nx] 42)) := fun _ _ _ h hg => h.held3 hg
      have HAE : Hid (∀ (w1 w6 : World) (t : List Int × Int) (a6 : Option Addr) (c6 : Nat), EdI W w1 BB R NE NZ t AA k CC pre none 0 0 [] sq nx → w1.grownBy w6 (Value.slice AA k CC).ownBlock → OwnR w6 W.heap.size 3 1 (.slice a6 (k + 1) c6) (pre.map irow ++ [[.int .i64 v]]) → EdI W (w6.setCell ⟨NE, 0, none⟩ (.slice a6 (k + 1) c6)) BB R NE NZ t a6 (k + 1) c6 (pre ++ [v]) none 0 0 [] sq nx) := fun _ _ _ _ _ h hg ho => h.app3 hg ho
      clear hpl hv HNU HME C4 HT5 HT
      obtain ⟨PM, hPM⟩ : ∃ PM, pre.map irow = PM := ⟨_, rfl⟩
      rw [hPM] at HBN HSh HOW HAE
      clear hPM
      go_upto_region 6 with fail
      refine wp_region_held_drew (S := (fun _ => True)) (by kernel_rfl) (by (try dsimp only); (try exact trivial)) (fun hHeld => ?_)
      have E0 := hid (HE.out.up (up_dr (Below.refl wr.heap.size wr)))
      generalize wr.drew = wd at *
      refine wpAnyH_take (i := 0) (v := ?_) rfl (by kernel_rfl) (by kernel_rfl) (by kernel_rfl) (fun _ _ _ h => h) (Or.inl ⟨by kernel_rfl, ?_⟩) (by assumption) ?_
      rotate_left
      focus (intro w hSw; (try dsimp only at hSw); go_simp; (try with_reducible rfl); done)
      try simp only [Act.put, List.getElem_toArray, List.getElem_cons_zero, List.getElem_cons_succ, List.setIfInBounds_toArray, List.set_cons_zero, List.set_cons_succ]
      refine wpAnyH_take (i := 2) (v := ?_) rfl (by kernel_rfl) (by kernel_rfl) (by kernel_rfl) (fun _ _ _ h => h) (Or.inl ⟨by kernel_rfl, ?_⟩) (by assumption) ?_
      rotate_left
      focus (intro w hSw; (try dsimp only at hSw); go_simp; (try with_reducible rfl); done)
      try simp only [Act.put, List.getElem_toArray, List.getElem_cons_zero, List.getElem_cons_succ, List.setIfInBounds_toArray, List.set_cons_zero, List.set_cons_succ]
      refine wpAnyH_ready (rs := [1, 3]) (by kernel_rfl) (by simp) ?_
      refine AllReadyH.cons rfl (fun K hK => ?_) (AllReadyH.cons rfl (fun K hK => ?_) AllReadyH.nil)
      · skip
        have q1 := blk_cell E0.out.be 0 _ rfl
        go_simp
        refine hK.out _ _ (by (try dsimp only); (try exact trivial)) (fun hHeld => ?_)
        clear hK K
        try simp only [Act.put, List.getElem_toArray, List.getElem_cons_zero, List.getElem_cons_succ, List.setIfInBounds_toArray, List.set_cons_zero, List.set_cons_succ]
        clear q1
        refine wpAnyH_ready (rs := [3]) (by kernel_rfl) (by simp) ?_
        refine AllReadyH.cons rfl (fun K hK => ?_) AllReadyH.nil
        go_simp
        refine (CV.out _ E0.out.rd).mono ?_
        rintro e w1 ⟨rfl, J1, G1⟩
        have E1 := hid (E0.out.read J1.out G1.out)
        clear J1 G1
        go_wp2_with fail
        refine hK.out _ _ (by (try dsimp only); (try exact trivial)) (fun hHeld => ?_)
        clear hK K
        try simp only [Act.put, List.getElem_toArray, List.getElem_cons_zero, List.getElem_cons_succ, List.setIfInBounds_toArray, List.set_cons_zero, List.set_cons_succ]
        refine wpAnyH_ready (rs := [4]) (by kernel_rfl) (by simp) ?_
        refine AllReadyH.cons rfl (fun K hK => ?_) AllReadyH.nil
        have E2 := hid (E1.out.up (up_alloc w1 (.cells #[.int .i64 v] 3)))
        go_simp
        refine hK.out _ _ (by (try dsimp only); (try exact trivial)) (fun hHeld => ?_)
        clear hK K
        try simp only [Act.put, List.getElem_toArray, List.getElem_cons_zero, List.getElem_cons_succ, List.setIfInBounds_toArray, List.set_cons_zero, List.set_cons_succ]
        refine wpAnyH_ready (rs := [5]) (by kernel_rfl) (by simp) ?_
        refine AllReadyH.cons rfl (fun K hK => ?_) AllReadyH.nil
        refine step_append_rows _ rfl (.tmp 15) (.tmp 18) 29 3 (.int .i64 0) 1 8 rfl Tryz.underlying29 Tryz.info3 rfl (by decide) W.heap.size (.slice AA k CC) PM rfl (HOW.out _ _ E2.out) _ [[.int .i64 v]] rfl (row_made w1 3 [.int .i64 v] 1 rfl) HON.out HBN.out.1 HBN.out.2 E2.out.gr.size ?_
        intro v6 w6 o6 g6
        obtain ⟨a6, c6, e6⟩ := HSh.out _ _ o6
        subst e6
        have K6 := HAP.out _ _ _ E2.out g6
        have E3 := hid (HAE.out _ _ _ _ _ E2.out g6 o6)
        clear o6 g6
        refine hK.out _ _ (by (try dsimp only); (try exact trivial)) (fun hHeld => ?_)
        clear hK K
        try simp only [Act.put, List.getElem_toArray, List.getElem_cons_zero, List.getElem_cons_succ, List.setIfInBounds_toArray, List.set_cons_zero, List.set_cons_succ]
        refine wpAnyH_take (i := 6) (v := ?_) rfl (by kernel_rfl) (by kernel_rfl) (by kernel_rfl) (fun _ _ _ h => h) (Or.inl ⟨by kernel_rfl, ?_⟩) (by assumption) ?_
        rotate_left
        focus (intro w hSw; (try dsimp only at hSw); go_simp; (try with_reducible rfl); done)
        try simp only [Act.put, List.getElem_toArray, List.getElem_cons_zero, List.getElem_cons_succ, List.setIfInBounds_toArray, List.set_cons_zero, List.set_cons_succ]
        refine wpAnyH_ready (rs := [7]) (by kernel_rfl) (by simp) ?_
        refine AllReadyH.cons rfl (fun K hK => ?_) AllReadyH.nil
        have q2 := blk_cell K6 0 _ rfl
        have q3 := blk_frozen K6 0
        go_simp
        refine hK.out _ _ (by (try dsimp only); (try exact trivial)) (fun hHeld => ?_)
        clear hK K
        try simp only [Act.put, List.getElem_toArray, List.getElem_cons_zero, List.getElem_cons_succ, List.setIfInBounds_toArray, List.set_cons_zero, List.set_cons_succ]
        refine wpAnyH_done (by kernel_rfl) ?_ _
        clear q2 q3 K6
        generalize HY : World.setCell w6 _ _ = y6 at *
        clear HY
        go_wp2_with fail
        exact ⟨⟨k + 1, t', a6, c6, pre ++ [v], by omega, by go_num, E3, HT'⟩, by simp [intOf]; omega⟩
      · skip
        go_simp
        refine (CV.out _ E0.out.rd).mono ?_
        rintro e w1 ⟨rfl, J1, G1⟩
        have E1 := hid (E0.out.read J1.out G1.out)
        clear J1 G1
        go_wp2_with fail
        refine hK.out _ _ (by (try dsimp only); (try exact trivial)) (fun hHeld => ?_)
        clear hK K
        try simp only [Act.put, List.getElem_toArray, List.getElem_cons_zero, List.getElem_cons_succ, List.setIfInBounds_toArray, List.set_cons_zero, List.set_cons_succ]
        refine wpAnyH_ready (rs := [1, 4]) (by kernel_rfl) (by simp) ?_
        refine AllReadyH.cons rfl (fun K hK => ?_) (AllReadyH.cons rfl (fun K hK => ?_) AllReadyH.nil)
        · skip
          have q1 := blk_cell E1.out.be 0 _ rfl
          go_simp
          refine hK.out _ _ (by (try dsimp only); (try exact trivial)) (fun hHeld => ?_)
          clear hK K
          try simp only [Act.put, List.getElem_toArray, List.getElem_cons_zero, List.getElem_cons_succ, List.setIfInBounds_toArray, List.set_cons_zero, List.set_cons_succ]
          clear q1
          refine wpAnyH_ready (rs := [4]) (by kernel_rfl) (by simp) ?_
          refine AllReadyH.cons rfl (fun K hK => ?_) AllReadyH.nil
          have E2 := hid (E1.out.up (up_alloc w1 (.cells #[.int .i64 v] 3)))
          go_simp
          refine hK.out _ _ (by (try dsimp only); (try exact trivial)) (fun hHeld => ?_)
          clear hK K
          try simp only [Act.put, List.getElem_toArray, List.getElem_cons_zero, List.getElem_cons_succ, List.setIfInBounds_toArray, List.set_cons_zero, List.set_cons_succ]
          refine wpAnyH_ready (rs := [5]) (by kernel_rfl) (by simp) ?_
          refine AllReadyH.cons rfl (fun K hK => ?_) AllReadyH.nil
          refine step_append_rows _ rfl (.tmp 15) (.tmp 18) 29 3 (.int .i64 0) 1 8 rfl Tryz.underlying29 Tryz.info3 rfl (by decide) W.heap.size (.slice AA k CC) PM rfl (HOW.out _ _ E2.out) _ [[.int .i64 v]] rfl (row_made w1 3 [.int .i64 v] 1 rfl) HON.out HBN.out.1 HBN.out.2 E2.out.gr.size ?_
          intro v6 w6 o6 g6
          obtain ⟨a6, c6, e6⟩ := HSh.out _ _ o6
          subst e6
          have K6 := HAP.out _ _ _ E2.out g6
          have E3 := hid (HAE.out _ _ _ _ _ E2.out g6 o6)
          clear o6 g6
          refine hK.out _ _ (by (try dsimp only); (try exact trivial)) (fun hHeld => ?_)
          clear hK K
          try simp only [Act.put, List.getElem_toArray, List.getElem_cons_zero, List.getElem_cons_succ, List.setIfInBounds_toArray, List.set_cons_zero, List.set_cons_succ]
          refine wpAnyH_take (i := 6) (v := ?_) rfl (by kernel_rfl) (by kernel_rfl) (by kernel_rfl) (fun _ _ _ h => h) (Or.inl ⟨by kernel_rfl, ?_⟩) (by assumption) ?_
          rotate_left
          focus (intro w hSw; (try dsimp only at hSw); go_simp; (try with_reducible rfl); done)
          try simp only [Act.put, List.getElem_toArray, List.getElem_cons_zero, List.getElem_cons_succ, List.setIfInBounds_toArray, List.set_cons_zero, List.set_cons_succ]
          refine wpAnyH_ready (rs := [7]) (by kernel_rfl) (by simp) ?_
          refine AllReadyH.cons rfl (fun K hK => ?_) AllReadyH.nil
          have q2 := blk_cell K6 0 _ rfl
          have q3 := blk_frozen K6 0
          go_simp
          refine hK.out _ _ (by (try dsimp only); (try exact trivial)) (fun hHeld => ?_)
          clear hK K
          try simp only [Act.put, List.getElem_toArray, List.getElem_cons_zero, List.getElem_cons_succ, List.setIfInBounds_toArray, List.set_cons_zero, List.set_cons_succ]
          refine wpAnyH_done (by kernel_rfl) ?_ _
          clear q2 q3 K6
          generalize HY : World.setCell w6 _ _ = y6 at *
          clear HY
          go_wp2_with fail
          exact ⟨⟨k + 1, t', a6, c6, pre ++ [v], by omega, by go_num, E3, HT'⟩, by simp [intOf]; omega⟩
        · skip
          have E2 := hid (E1.out.up (up_alloc w1 (.cells #[.int .i64 v] 3)))
          go_simp
          refine hK.out _ _ (by (try dsimp only); (try exact trivial)) (fun hHeld => ?_)
          clear hK K
          try simp only [Act.put, List.getElem_toArray, List.getElem_cons_zero, List.getElem_cons_succ, List.setIfInBounds_toArray, List.set_cons_zero, List.set_cons_succ]
          refine wpAnyH_ready (rs := [1]) (by kernel_rfl) (by simp) ?_
          refine AllReadyH.cons rfl (fun K hK => ?_) AllReadyH.nil
          have q1 := blk_cell E2.out.be 0 _ rfl
          go_simp
          refine hK.out _ _ (by (try dsimp only); (try exact trivial)) (fun hHeld => ?_)
          clear hK K
          try simp only [Act.put, List.getElem_toArray, List.getElem_cons_zero, List.getElem_cons_succ, List.setIfInBounds_toArray, List.set_cons_zero, List.set_cons_succ]
          clear q1
          refine wpAnyH_ready (rs := [5]) (by kernel_rfl) (by simp) ?_
          refine AllReadyH.cons rfl (fun K hK => ?_) AllReadyH.nil
          refine step_append_rows _ rfl (.tmp 15) (.tmp 18) 29 3 (.int .i64 0) 1 8 rfl Tryz.underlying29 Tryz.info3 rfl (by decide) W.heap.size (.slice AA k CC) PM rfl (HOW.out _ _ E2.out) _ [[.int .i64 v]] rfl (row_made w1 3 [.int .i64 v] 1 rfl) HON.out HBN.out.1 HBN.out.2 E2.out.gr.size ?_
          intro v6 w6 o6 g6
          obtain ⟨a6, c6, e6⟩ := HSh.out _ _ o6
          subst e6
          have K6 := HAP.out _ _ _ E2.out g6
          have E3 := hid (HAE.out _ _ _ _ _ E2.out g6 o6)
          clear o6 g6
          refine hK.out _ _ (by (try dsimp only); (try exact trivial)) (fun hHeld => ?_)
          clear hK K
          try simp only [Act.put, List.getElem_toArray, List.getElem_cons_zero, List.getElem_cons_succ, List.setIfInBounds_toArray, List.set_cons_zero, List.set_cons_succ]
          refine wpAnyH_take (i := 6) (v := ?_) rfl (by kernel_rfl) (by kernel_rfl) (by kernel_rfl) (fun _ _ _ h => h) (Or.inl ⟨by kernel_rfl, ?_⟩) (by assumption) ?_
          rotate_left
          focus (intro w hSw; (try dsimp only at hSw); go_simp; (try with_reducible rfl); done)
          try simp only [Act.put, List.getElem_toArray, List.getElem_cons_zero, List.getElem_cons_succ, List.setIfInBounds_toArray, List.set_cons_zero, List.set_cons_succ]
          refine wpAnyH_ready (rs := [7]) (by kernel_rfl) (by simp) ?_
          refine AllReadyH.cons rfl (fun K hK => ?_) AllReadyH.nil
          have q2 := blk_cell K6 0 _ rfl
          have q3 := blk_frozen K6 0
          go_simp
          refine hK.out _ _ (by (try dsimp only); (try exact trivial)) (fun hHeld => ?_)
          clear hK K
          try simp only [Act.put, List.getElem_toArray, List.getElem_cons_zero, List.getElem_cons_succ, List.setIfInBounds_toArray, List.set_cons_zero, List.set_cons_succ]
          refine wpAnyH_done (by kernel_rfl) ?_ _
          clear q2 q3 K6
          generalize HY : World.setCell w6 _ _ = y6 at *
          clear HY
          go_wp2_with fail
          exact ⟨⟨k + 1, t', a6, c6, pre ++ [v], by omega, by go_num, E3, HT'⟩, by simp [intOf]; omega⟩
    · have hlt' : ¬ (k : Int) < (n : Int) := by omega
      obtain rfl : k = n := by omega
      have HT' : ((pre ++ (idsS (k - k) s').1, (idsS (k - k) s').2) = (ids, s3)) := HT.out
      rw [Nat.sub_self] at HT'
      simp only [idsS, List.append_nil, Prod.mk.injEq] at HT'
      obtain ⟨rfl, rfl⟩ := HT'
      clear HT
      go_wp2_with fail
      refine (C4.out wr HE.out.rd).mono ?_
      rintro e x3 ⟨rfl, J0, K0⟩
      have F5 := hid (HE.out.read J0.out K0.out)
      clear HE J0 K0 C4 HNU
      go_wp2_with fail
      generalize hDD : k = DD at *
      clear hDD
      go_loopw [24] (fun i wr => ∃ (k : Nat) (s' : List Int × Int) (am : Option Addr) (cm : Nat) (pm : List Me), k ≤ m ∧ i = .int .i64 k ∧ Hid (EdI W wr BB R NE NZ s' AA DD CC pre am k cm pm sq nx) ∧ Hid ((pm ++ (metsS (m - k) s').1, (metsS (m - k) s').2) = (ms, s5))) (fun i _ => m - (intOf i).toNat)
      case atStart => exact ⟨0, s4, none, 0, [], Nat.zero_le _, rfl, F5, HT5⟩
      case round =>
        clear F5 HT5
        generalize hDA : AA = DA at *
        generalize hDC : CC = DC at *
        clear hDA hDC
        obtain ⟨k, s', AA, CC, pm, hk, rfl, HE, HT⟩ := hrel
        by_cases hlt : k < m
        · have hlt' : (k : Int) < (m : Int) := by omega
          obtain ⟨⟨v, t'⟩, hv⟩ : ∃ p, metS s' = p := ⟨_, rfl⟩
          have CV := hid (HME.out s')
          rw [hv] at CV
          simp only at CV
          have HT' := hid (mets_goes HT.out hlt hv)
          have hpl := HE.out.len3.2
          have HBN : Hid ((((pm.map meRow).length + 1) + ((pm.map meRow).length + 1) / 4 + 192) * 56 ≤ 281474976710656 ∧ (pm.map meRow).length + 1 ≤ maxLen) := by
            unfold Hid maxLen
            rw [List.length_map, hpl]
            omega
          have HON : Hid (∀ cs ∈ [[Value.int .i64 v.id, .int .i64 v.lvl, .int .i64 v.cnt, .string v.low, .string v.high]], ∀ u ∈ cs, u.oneCell' = true) := by
            intro cs hcs u hu
            simp only [List.mem_singleton] at hcs
            subst hcs
            exact meRow_one v u hu
          have HSh : Hid (∀ (w6 : World) (v6 : Value), OwnR w6 W.heap.size 148 5 v6 (pm.map meRow ++ [[.int .i64 v.id, .int .i64 v.lvl, .int .i64 v.cnt, .string v.low, .string v.high]]) → ∃ a c, v6 = .slice a (k + 1) c) := by
            intro w6 v6 h
            obtain ⟨a, c, e, _, _⟩ := (Rws.own h).len
            rw [List.length_append, List.length_map, hpl] at e
            exact ⟨a, c, e⟩
          have HOW : Hid (∀ (w' : World) (t : List Int × Int), EdI W w' BB R NE NZ t DA DD DC pre AA k CC pm sq nx → OwnR w' W.heap.size 148 5 (.slice AA k CC) (pm.map meRow)) := fun _ _ h => h.om
          have HAP : Hid (∀ (w1 w6 : World) (t : List Int × Int), EdI W w1 BB R NE NZ t DA DD DC pre AA k CC pm sq nx → w1.grownBy w6 (Value.slice AA k CC).ownBlock → w6.heap[NE]? = some (.cells #[.slice DA DD DC, .slice AA k CC, .int .i64 sq, .int .i64 nx] 42)) := fun _ _ _ h hg => h.held65 hg
          have HAE : Hid (∀ (w1 w6 : World) (t : List Int × Int) (a6 : Option Addr) (c6 : Nat), EdI W w1 BB R NE NZ t DA DD DC pre AA k CC pm sq nx → w1.grownBy w6 (Value.slice AA k CC).ownBlock → OwnR w6 W.heap.size 148 5 (.slice a6 (k + 1) c6) (pm.map meRow ++ [[.int .i64 v.id, .int .i64 v.lvl, .int .i64 v.cnt, .string v.low, .string v.high]]) → EdI W (w6.setCell ⟨NE, 1, none⟩ (.slice a6 (k + 1) c6)) BB R NE NZ t DA DD DC pre a6 (k + 1) c6 (pm ++ [v]) sq nx) := fun _ _ _ _ _ h hg ho => h.app65 hg ho
          clear hpl hv HME HT
          obtain ⟨PM, hPM⟩ : ∃ PM, pm.map meRow = PM := ⟨_, rfl⟩
          rw [hPM] at HBN HSh HOW HAE
          clear hPM
          go_upto_region 10 with fail
          refine wp_region_held_drew (S := (fun _ => True)) (by kernel_rfl) (by (try dsimp only); (try exact trivial)) (fun hHeld => ?_)
          have E0 := hid (HE.out.up (up_dr (Below.refl wr.heap.size wr)))
          generalize wr.drew = wd at *
          refine wpAnyH_take (i := 0) (v := ?_) rfl (by kernel_rfl) (by kernel_rfl) (by kernel_rfl) (fun _ _ _ h => h) (Or.inl ⟨by kernel_rfl, ?_⟩) (by assumption) ?_
          rotate_left
          focus (intro w hSw; (try dsimp only at hSw); go_simp; (try with_reducible rfl); done)
          try simp only [Act.put, List.getElem_toArray, List.getElem_cons_zero, List.getElem_cons_succ, List.setIfInBounds_toArray, List.set_cons_zero, List.set_cons_succ]
          refine wpAnyH_take (i := 2) (v := ?_) rfl (by kernel_rfl) (by kernel_rfl) (by kernel_rfl) (fun _ _ _ h => h) (Or.inl ⟨by kernel_rfl, ?_⟩) (by assumption) ?_
          rotate_left
          focus (intro w hSw; (try dsimp only at hSw); go_simp; (try with_reducible rfl); done)
          try simp only [Act.put, List.getElem_toArray, List.getElem_cons_zero, List.getElem_cons_succ, List.setIfInBounds_toArray, List.set_cons_zero, List.set_cons_succ]
          refine wpAnyH_ready (rs := [1, 3]) (by kernel_rfl) (by simp) ?_
          refine AllReadyH.cons rfl (fun K hK => ?_) (AllReadyH.cons rfl (fun K hK => ?_) AllReadyH.nil)
          · skip
            have q1 := blk_cell E0.out.be 1 _ rfl
            go_simp
            refine hK.out _ _ (by (try dsimp only); (try exact trivial)) (fun hHeld => ?_)
            clear hK K
            try simp only [Act.put, List.getElem_toArray, List.getElem_cons_zero, List.getElem_cons_succ, List.setIfInBounds_toArray, List.set_cons_zero, List.set_cons_succ]
            clear q1
            refine wpAnyH_ready (rs := [3]) (by kernel_rfl) (by simp) ?_
            refine AllReadyH.cons rfl (fun K hK => ?_) AllReadyH.nil
            go_simp
            refine (CV.out _ E0.out.rd).mono ?_
            rintro e w1 ⟨rfl, J1, G1⟩
            have E1 := hid (E0.out.read J1.out G1.out)
            clear J1 G1
            go_wp2_with fail
            refine hK.out _ _ (by (try dsimp only); (try exact trivial)) (fun hHeld => ?_)
            clear hK K
            try simp only [Act.put, List.getElem_toArray, List.getElem_cons_zero, List.getElem_cons_succ, List.setIfInBounds_toArray, List.set_cons_zero, List.set_cons_succ]
            refine wpAnyH_ready (rs := [4]) (by kernel_rfl) (by simp) ?_
            refine AllReadyH.cons rfl (fun K hK => ?_) AllReadyH.nil
            have E2 := hid (E1.out.up (up_alloc w1 (.cells #[.int .i64 v.id, .int .i64 v.lvl, .int .i64 v.cnt, .string v.low, .string v.high] 148)))
            go_simp
            refine hK.out _ _ (by (try dsimp only); (try exact trivial)) (fun hHeld => ?_)
            clear hK K
            try simp only [Act.put, List.getElem_toArray, List.getElem_cons_zero, List.getElem_cons_succ, List.setIfInBounds_toArray, List.set_cons_zero, List.set_cons_succ]
            refine wpAnyH_ready (rs := [5]) (by kernel_rfl) (by simp) ?_
            refine AllReadyH.cons rfl (fun K hK => ?_) AllReadyH.nil
            refine step_append_rows _ rfl (.tmp 27) (.tmp 30) 37 148 (.agg #[.int .i64 0, .int .i64 0, .int .i64 0, .string ⟨#[]⟩, .string ⟨#[]⟩]) 5 56 rfl Tryz.underlying37 Tryz.info148 rfl (by decide) W.heap.size (.slice AA k CC) PM rfl (HOW.out _ _ E2.out) _ [[.int .i64 v.id, .int .i64 v.lvl, .int .i64 v.cnt, .string v.low, .string v.high]] rfl (row_made w1 148 [.int .i64 v.id, .int .i64 v.lvl, .int .i64 v.cnt, .string v.low, .string v.high] 5 rfl) HON.out HBN.out.1 HBN.out.2 E2.out.gr.size ?_
            intro v6 w6 o6 g6
            obtain ⟨a6, c6, e6⟩ := HSh.out _ _ o6
            subst e6
            have K6 := HAP.out _ _ _ E2.out g6
            have E3 := hid (HAE.out _ _ _ _ _ E2.out g6 o6)
            clear o6 g6
            refine hK.out _ _ (by (try dsimp only); (try exact trivial)) (fun hHeld => ?_)
            clear hK K
            try simp only [Act.put, List.getElem_toArray, List.getElem_cons_zero, List.getElem_cons_succ, List.setIfInBounds_toArray, List.set_cons_zero, List.set_cons_succ]
            refine wpAnyH_take (i := 6) (v := ?_) rfl (by kernel_rfl) (by kernel_rfl) (by kernel_rfl) (fun _ _ _ h => h) (Or.inl ⟨by kernel_rfl, ?_⟩) (by assumption) ?_
            rotate_left
            focus (intro w hSw; (try dsimp only at hSw); go_simp; (try with_reducible rfl); done)
            try simp only [Act.put, List.getElem_toArray, List.getElem_cons_zero, List.getElem_cons_succ, List.setIfInBounds_toArray, List.set_cons_zero, List.set_cons_succ]
            refine wpAnyH_ready (rs := [7]) (by kernel_rfl) (by simp) ?_
            refine AllReadyH.cons rfl (fun K hK => ?_) AllReadyH.nil
            have q2 := blk_cell K6 1 _ rfl
            have q3 := blk_frozen K6 1
            go_simp
            refine hK.out _ _ (by (try dsimp only); (try exact trivial)) (fun hHeld => ?_)
            clear hK K
            try simp only [Act.put, List.getElem_toArray, List.getElem_cons_zero, List.getElem_cons_succ, List.setIfInBounds_toArray, List.set_cons_zero, List.set_cons_succ]
            refine wpAnyH_done (by kernel_rfl) ?_ _
            clear q2 q3 K6
            generalize HY : World.setCell w6 _ _ = y6 at *
            clear HY
            go_wp2_with fail
            exact ⟨⟨k + 1, t', a6, c6, pm ++ [v], by omega, by go_num, E3, HT'⟩, by simp [intOf]; omega⟩
          · skip
            go_simp
            refine (CV.out _ E0.out.rd).mono ?_
            rintro e w1 ⟨rfl, J1, G1⟩
            have E1 := hid (E0.out.read J1.out G1.out)
            clear J1 G1
            go_wp2_with fail
            refine hK.out _ _ (by (try dsimp only); (try exact trivial)) (fun hHeld => ?_)
            clear hK K
            try simp only [Act.put, List.getElem_toArray, List.getElem_cons_zero, List.getElem_cons_succ, List.setIfInBounds_toArray, List.set_cons_zero, List.set_cons_succ]
            refine wpAnyH_ready (rs := [1, 4]) (by kernel_rfl) (by simp) ?_
            refine AllReadyH.cons rfl (fun K hK => ?_) (AllReadyH.cons rfl (fun K hK => ?_) AllReadyH.nil)
            · skip
              have q1 := blk_cell E1.out.be 1 _ rfl
              go_simp
              refine hK.out _ _ (by (try dsimp only); (try exact trivial)) (fun hHeld => ?_)
              clear hK K
              try simp only [Act.put, List.getElem_toArray, List.getElem_cons_zero, List.getElem_cons_succ, List.setIfInBounds_toArray, List.set_cons_zero, List.set_cons_succ]
              clear q1
              refine wpAnyH_ready (rs := [4]) (by kernel_rfl) (by simp) ?_
              refine AllReadyH.cons rfl (fun K hK => ?_) AllReadyH.nil
              have E2 := hid (E1.out.up (up_alloc w1 (.cells #[.int .i64 v.id, .int .i64 v.lvl, .int .i64 v.cnt, .string v.low, .string v.high] 148)))
              go_simp
              refine hK.out _ _ (by (try dsimp only); (try exact trivial)) (fun hHeld => ?_)
              clear hK K
              try simp only [Act.put, List.getElem_toArray, List.getElem_cons_zero, List.getElem_cons_succ, List.setIfInBounds_toArray, List.set_cons_zero, List.set_cons_succ]
              refine wpAnyH_ready (rs := [5]) (by kernel_rfl) (by simp) ?_
              refine AllReadyH.cons rfl (fun K hK => ?_) AllReadyH.nil
              refine step_append_rows _ rfl (.tmp 27) (.tmp 30) 37 148 (.agg #[.int .i64 0, .int .i64 0, .int .i64 0, .string ⟨#[]⟩, .string ⟨#[]⟩]) 5 56 rfl Tryz.underlying37 Tryz.info148 rfl (by decide) W.heap.size (.slice AA k CC) PM rfl (HOW.out _ _ E2.out) _ [[.int .i64 v.id, .int .i64 v.lvl, .int .i64 v.cnt, .string v.low, .string v.high]] rfl (row_made w1 148 [.int .i64 v.id, .int .i64 v.lvl, .int .i64 v.cnt, .string v.low, .string v.high] 5 rfl) HON.out HBN.out.1 HBN.out.2 E2.out.gr.size ?_
              intro v6 w6 o6 g6
              obtain ⟨a6, c6, e6⟩ := HSh.out _ _ o6
              subst e6
              have K6 := HAP.out _ _ _ E2.out g6
              have E3 := hid (HAE.out _ _ _ _ _ E2.out g6 o6)
              clear o6 g6
              refine hK.out _ _ (by (try dsimp only); (try exact trivial)) (fun hHeld => ?_)
              clear hK K
              try simp only [Act.put, List.getElem_toArray, List.getElem_cons_zero, List.getElem_cons_succ, List.setIfInBounds_toArray, List.set_cons_zero, List.set_cons_succ]
              refine wpAnyH_take (i := 6) (v := ?_) rfl (by kernel_rfl) (by kernel_rfl) (by kernel_rfl) (fun _ _ _ h => h) (Or.inl ⟨by kernel_rfl, ?_⟩) (by assumption) ?_
              rotate_left
              focus (intro w hSw; (try dsimp only at hSw); go_simp; (try with_reducible rfl); done)
              try simp only [Act.put, List.getElem_toArray, List.getElem_cons_zero, List.getElem_cons_succ, List.setIfInBounds_toArray, List.set_cons_zero, List.set_cons_succ]
              refine wpAnyH_ready (rs := [7]) (by kernel_rfl) (by simp) ?_
              refine AllReadyH.cons rfl (fun K hK => ?_) AllReadyH.nil
              have q2 := blk_cell K6 1 _ rfl
              have q3 := blk_frozen K6 1
              go_simp
              refine hK.out _ _ (by (try dsimp only); (try exact trivial)) (fun hHeld => ?_)
              clear hK K
              try simp only [Act.put, List.getElem_toArray, List.getElem_cons_zero, List.getElem_cons_succ, List.setIfInBounds_toArray, List.set_cons_zero, List.set_cons_succ]
              refine wpAnyH_done (by kernel_rfl) ?_ _
              clear q2 q3 K6
              generalize HY : World.setCell w6 _ _ = y6 at *
              clear HY
              go_wp2_with fail
              exact ⟨⟨k + 1, t', a6, c6, pm ++ [v], by omega, by go_num, E3, HT'⟩, by simp [intOf]; omega⟩
            · skip
              have E2 := hid (E1.out.up (up_alloc w1 (.cells #[.int .i64 v.id, .int .i64 v.lvl, .int .i64 v.cnt, .string v.low, .string v.high] 148)))
              go_simp
              refine hK.out _ _ (by (try dsimp only); (try exact trivial)) (fun hHeld => ?_)
              clear hK K
              try simp only [Act.put, List.getElem_toArray, List.getElem_cons_zero, List.getElem_cons_succ, List.setIfInBounds_toArray, List.set_cons_zero, List.set_cons_succ]
              refine wpAnyH_ready (rs := [1]) (by kernel_rfl) (by simp) ?_
              refine AllReadyH.cons rfl (fun K hK => ?_) AllReadyH.nil
              have q1 := blk_cell E2.out.be 1 _ rfl
              go_simp
              refine hK.out _ _ (by (try dsimp only); (try exact trivial)) (fun hHeld => ?_)
              clear hK K
              try simp only [Act.put, List.getElem_toArray, List.getElem_cons_zero, List.getElem_cons_succ, List.setIfInBounds_toArray, List.set_cons_zero, List.set_cons_succ]
              clear q1
              refine wpAnyH_ready (rs := [5]) (by kernel_rfl) (by simp) ?_
              refine AllReadyH.cons rfl (fun K hK => ?_) AllReadyH.nil
              refine step_append_rows _ rfl (.tmp 27) (.tmp 30) 37 148 (.agg #[.int .i64 0, .int .i64 0, .int .i64 0, .string ⟨#[]⟩, .string ⟨#[]⟩]) 5 56 rfl Tryz.underlying37 Tryz.info148 rfl (by decide) W.heap.size (.slice AA k CC) PM rfl (HOW.out _ _ E2.out) _ [[.int .i64 v.id, .int .i64 v.lvl, .int .i64 v.cnt, .string v.low, .string v.high]] rfl (row_made w1 148 [.int .i64 v.id, .int .i64 v.lvl, .int .i64 v.cnt, .string v.low, .string v.high] 5 rfl) HON.out HBN.out.1 HBN.out.2 E2.out.gr.size ?_
              intro v6 w6 o6 g6
              obtain ⟨a6, c6, e6⟩ := HSh.out _ _ o6
              subst e6
              have K6 := HAP.out _ _ _ E2.out g6
              have E3 := hid (HAE.out _ _ _ _ _ E2.out g6 o6)
              clear o6 g6
              refine hK.out _ _ (by (try dsimp only); (try exact trivial)) (fun hHeld => ?_)
              clear hK K
              try simp only [Act.put, List.getElem_toArray, List.getElem_cons_zero, List.getElem_cons_succ, List.setIfInBounds_toArray, List.set_cons_zero, List.set_cons_succ]
              refine wpAnyH_take (i := 6) (v := ?_) rfl (by kernel_rfl) (by kernel_rfl) (by kernel_rfl) (fun _ _ _ h => h) (Or.inl ⟨by kernel_rfl, ?_⟩) (by assumption) ?_
              rotate_left
              focus (intro w hSw; (try dsimp only at hSw); go_simp; (try with_reducible rfl); done)
              try simp only [Act.put, List.getElem_toArray, List.getElem_cons_zero, List.getElem_cons_succ, List.setIfInBounds_toArray, List.set_cons_zero, List.set_cons_succ]
              refine wpAnyH_ready (rs := [7]) (by kernel_rfl) (by simp) ?_
              refine AllReadyH.cons rfl (fun K hK => ?_) AllReadyH.nil
              have q2 := blk_cell K6 1 _ rfl
              have q3 := blk_frozen K6 1
              go_simp
              refine hK.out _ _ (by (try dsimp only); (try exact trivial)) (fun hHeld => ?_)
              clear hK K
              try simp only [Act.put, List.getElem_toArray, List.getElem_cons_zero, List.getElem_cons_succ, List.setIfInBounds_toArray, List.set_cons_zero, List.set_cons_succ]
              refine wpAnyH_done (by kernel_rfl) ?_ _
              clear q2 q3 K6
              generalize HY : World.setCell w6 _ _ = y6 at *
              clear HY
              go_wp2_with fail
              exact ⟨⟨k + 1, t', a6, c6, pm ++ [v], by omega, by go_num, E3, HT'⟩, by simp [intOf]; omega⟩
        · have hlt' : ¬ (k : Int) < (m : Int) := by omega
          obtain rfl : k = m := by omega
          have HT' : ((pm ++ (metsS (k - k) s').1, (metsS (k - k) s').2) = (ms, s5)) := HT.out
          rw [Nat.sub_self] at HT'
          simp only [metsS, List.append_nil, Prod.mk.injEq] at HT'
          obtain ⟨rfl, rfl⟩ := HT'
          clear HT
          have c0 := blk_cell HE.out.be 0 _ rfl
          have c1 := blk_cell HE.out.be 1 _ rfl
          have c2 := blk_cell HE.out.be 2 _ rfl
          have c3 := blk_cell HE.out.be 3 _ rfl
          have z0 := blk_cell HE.out.bz 0 _ rfl
          have z1 := blk_cell HE.out.bz 1 _ rfl
          have z2 := blk_cell HE.out.bz 2 _ rfl
          have z3 := blk_cell HE.out.bz 3 _ rfl
          have g0 := blk_frozen HE.out.bz 0
          have g1 := blk_frozen HE.out.bz 1
          have g2 := blk_frozen HE.out.bz 2
          have g3 := blk_frozen HE.out.bz 3
          go_wp2_with fail
          have hz := hNZ.out
          subst hz
          refine bodyPost_ret (results_edt1 rfl (.inl rfl) _ _ rfl (set4_blk HE.out.bz _ _ _ _)) rfl ?_
          have G4 := set4_grown wr W.heap.size (.slice DA DD DC) (.slice AA k CC) (.int .i64 sq) (.int .i64 nx)
          have hR := HE.out.r1
          have hZ := HE.out.r3
          have hB := HE.out.r5
          refine ⟨DA, DD, DC, AA, k, CC, rfl, HE.out.od.far G4 (own_blk_ne HE.out.od.2 HE.out.bz (by decide)), HE.out.om.far G4 (own_blk_ne HE.out.om.2 HE.out.bz (by decide)), rd_far HE.out.rd G4 (by omega) (by omega), grown_two HE.out.gr G4 (by omega)⟩
end Go.Proofs.YtnchjlimkgbfpaaGreatDoor
