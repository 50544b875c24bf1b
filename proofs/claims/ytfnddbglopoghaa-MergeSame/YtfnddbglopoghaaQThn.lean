/- The program's Thin of layer 13. -/
import Derived.Test.YtfnddbglopoghaaQSby
namespace Go.Proofs.Ytfnddbglopoghaa
open Go.RowKit Go.Shelf
set_option linter.unusedVariables false
set_option linter.unusedSimpArgs false
set_option maxRecDepth 100000
attribute [local go_sem] Oper.semAt_some wide_fn

theorem grps_other {gs : List (List En)} (h : Grps gs) {g k : List En} (hg : g ∈ gs) (hk : k ∈ gs) {x y : En} (hx : x ∈ g) (hy : y ∈ k) (e : KL x = KL y) : g = k := by
  obtain ⟨i, hi⟩ := List.getElem?_of_mem hg
  obtain ⟨j, hj⟩ := List.getElem?_of_mem hk
  have h1 := List.getElem?_eq_some_iff.1 hi
  have h2 := List.getElem?_eq_some_iff.1 hj
  rcases Nat.lt_trichotomy i j with q | q | q
  · have := List.pairwise_iff_getElem.1 h.2 i j h1.1 h2.1 q x (by rw [h1.2]; exact hx) y (by rw [h2.2]; exact hy)
    exact absurd e this
  · subst q
    rw [hi] at hj
    exact Option.some.inj hj
  · have := List.pairwise_iff_getElem.1 h.2 j i h2.1 h1.1 q y (by rw [h2.2]; exact hy) x (by rw [h1.2]; exact hx)
    exact absurd e.symm this
theorem tags_mem {snaps : List Int} {g : List En} {y : En} (h : y ∈ tagsG snaps g) : y ∈ g ∧ (g.head? = some y ∨ ∃ s ∈ snaps, seesM g s = some y) := by
  unfold tagsG at h
  rcases List.mem_append.1 h with q | q
  · have : g.head? = some y := by cases hh : g.head? with | none => rw [hh] at q; simp at q | some z => rw [hh] at q; simp at q; rw [q]
    exact ⟨List.mem_of_head? this, .inl this⟩
  · obtain ⟨s, hs, e⟩ := List.mem_filterMap.1 q
    exact ⟨List.mem_of_find?_eq_some e, .inr ⟨s, hs, e⟩⟩
theorem seen_stay {l : List En} (h : Asc l) (snaps : List Int) {g : List En} (hg : g ∈ groupsM l) {x : En} (hx : x ∈ g) : seenB (tagsL l snaps (groupsM l).length) x = stayM g snaps x := by
  have hG := groups_grps l.length l (Nat.le_refl _) h
  have hF := group_falls h hg
  rw [Bool.eq_iff_iff]
  unfold seenB
  rw [decide_eq_true_eq, cntT_pos]
  unfold tagsL
  rw [List.take_length]
  constructor
  · rintro ⟨y, hy, ht⟩
    obtain ⟨k, hk, hyk⟩ := List.mem_flatMap.1 hy
    obtain ⟨m1, m2⟩ := tags_mem hyk
    unfold twin at ht
    simp only [Bool.and_eq_true, beq_iff_eq, decide_eq_true_eq] at ht
    have e := grps_other hG hg hk hx m1 ht.1
    subst e
    unfold stayM
    rw [Bool.or_eq_true]
    rcases m2 with q | ⟨s, hs, q⟩
    · left
      rw [q]
      simp [ht.2]
    · right
      rw [List.any_eq_true]
      refine ⟨s, hs, ?_⟩
      rw [q]
      simp [ht.2]
  · intro hst
    unfold stayM at hst
    rw [Bool.or_eq_true] at hst
    have fin : ∀ y, y ∈ tagsG snaps g → y.seq = x.seq → ∃ z ∈ (groupsM l).flatMap (tagsG snaps), twin x z = true := by
      intro y hy e
      refine ⟨y, List.mem_flatMap.2 ⟨g, hg, hy⟩, ?_⟩
      rw [falls_inj hF x hx y (tags_mem hy).1 e.symm]
      exact twin_self y
    rcases hst with q | q
    · cases hh : g.head? with
      | none => rw [hh] at q; simp at q
      | some y =>
        rw [hh] at q
        simp at q
        exact fin y (by unfold tagsG; rw [hh]; simp) q
    · rw [List.any_eq_true] at q
      obtain ⟨s, hs, q⟩ := q
      cases hh : seesM g s with
      | none => rw [hh] at q; simp at q
      | some y =>
        rw [hh] at q
        simp at q
        exact fin y (by unfold tagsG; exact List.mem_append_right _ (List.mem_filterMap.2 ⟨s, hs, hh⟩)) q
/-- What is left of a key's versions. -/
def oneT (T : List En) (bottom : Bool) (g : List En) : List En := if bottom = true then cutM (g.filter (seenB T)) else g.filter (seenB T)
theorem oneT_eq {l : List En} (h : Asc l) (snaps : List Int) (bottom : Bool) : ((groupsM l).map (oneT (tagsL l snaps (groupsM l).length) bottom)).flatten = thinL l snaps bottom := by
  unfold thinL
  congr 1
  refine List.map_congr_left (fun g hg => ?_)
  unfold oneT oneM keptM
  have : g.filter (seenB (tagsL l snaps (groupsM l).length)) = g.filter (stayM g snaps) := List.filter_congr (fun x hx => seen_stay h snaps hg hx)
  rw [this]
theorem cut_len (l : List En) : (cutM l).length ≤ l.length := by
  obtain ⟨t, e, _⟩ := cut_split l
  have := congrArg List.length e
  rw [List.length_append] at this
  omega
theorem oneT_len (T : List En) (bottom : Bool) (g : List En) : (oneT T bottom g).length ≤ g.length := by
  unfold oneT
  have h1 := List.length_filter_le (seenB T) g
  split
  · have := cut_len (g.filter (seenB T))
    omega
  · exact h1
theorem oneT_sum (T : List En) (bottom : Bool) : ∀ gs : List (List En), ((gs.map (oneT T bottom)).flatten).length ≤ gs.flatten.length
  | [] => by simp
  | g :: gs => by
    simp only [List.map_cons, List.flatten_cons, List.length_append]
    have := oneT_len T bottom g
    have := oneT_sum T bottom gs
    omega
/-- What Thin tells. -/
def badS (s : Int) : Bool := decide (s < 0 ∨ 1099511627776 < s)
def thinP (l : List En) (snaps : List Int) : Int := if chkP l ≠ 0 then chkP l else if 16 < snaps.length then 3 else if snaps.any badS = true then 4 else 0
theorem thinP_iff (l : List En) (snaps : List Int) : thinP l snaps = 0 ↔ thinE l snaps = 0 := by
  unfold thinP thinE
  by_cases h : chkP l = 0
  · have h2 := (chkP_iff l).1 h
    simp only [h, h2, ne_eq, not_true, if_false]
    exact Iff.rfl
  · have h2 : ¬ ordL l = 0 := fun q => h ((chkP_iff l).2 q)
    rw [if_pos h, if_pos h2]
    exact ⟨fun q => absurd q h, fun q => absurd q h2⟩
theorem thinP_nine (l : List En) (snaps : List Int) : 0 ≤ thinP l snaps ∧ thinP l snaps ≤ 81 := by
  have := chkP_nine l
  unfold thinP
  split
  · exact this
  · split
    · omega
    · split <;> omega
set_option maxHeartbeats 1000000 in
theorem badS_any (s : Int) (w : World) : Calls Try.prog 28 #[.int .i64 s] w fun e w' => e = .returned (.bool (badS s)) ∧ w' = w := by
  unfold badS
  by_cases h1 : s < 0
  · have h2 : decide (s < 0) = true := by simp [h1]
    go_enter Try.func28, Try.ntmps28
    go_wp2
    go_ret
    exact ⟨by simp [h1], rfl⟩
  · have h2 : decide (s < 0) = false := by simp [h1]
    go_enter Try.func28, Try.ntmps28
    go_wp2
    go_ret
    refine ⟨?_, rfl⟩
    simp [h1]
set_option maxHeartbeats 1000000 in
theorem indexI_any (l : List Int) (v : Value) (w : World) (hv : IntsR w v l) :
    Calls Try.prog 42 #[v, .func (.func 28) #[] #[]] w fun e w' => ∃ r, e = .returned (.int .i64 r) ∧ Hid (decide (r ≥ 0) = l.any badS) ∧ w' = w := by
  have HV : Hid (IntsR w v l) := hv
  obtain ⟨a, cap, rfl, hcap, hmax⟩ := hv.len
  clear hv
  unfold maxLen at hmax
  go_enter Try.func42, Try.ntmps42
  go_wp2_with fail
  go_loopw [8] (fun i wr => ∃ k : Nat, k ≤ l.length ∧ i = .int .i64 k ∧ Hid (∀ y ∈ l.take k, badS y = false) ∧ wr = w) (fun i _ => l.length - (intOf i).toNat)
  case atStart => exact ⟨0, Nat.zero_le _, rfl, by simp [Hid], rfl⟩
  case round =>
    obtain ⟨k, hk, rfl, HK, rfl⟩ := hrel
    by_cases hlt : k < l.length
    · have hlt' : (k : Int) < (l.length : Int) := by omega
      obtain ⟨b, off, cap', y, e, hy, c0⟩ := HV.out.at k hlt
      simp at e
      obtain ⟨rfl, rfl⟩ := e
      have HY : Hid (l[k]? = some y) := hy
      have HC := hid (badS_any y wr)
      clear hy
      cases d : badS y with
      | true =>
        have HM : Hid (decide ((k : Int) ≥ 0) = l.any badS) := by
          unfold Hid
          rw [List.any_eq_true.2 ⟨y, List.mem_of_getElem? HY.out, d⟩]
          exact decide_eq_true (by omega)
        rw [d] at HC
        clear d
        go_wp2_with fail
        refine HC.out.mono ?_
        rintro e w1 ⟨rfl, rfl⟩
        go_wp2_with fail
        go_ret
        exact ⟨_, rfl, HM, rfl⟩
      | false =>
        have HK2 : Hid (∀ y ∈ l.take (k + 1), badS y = false) := by
          unfold Hid
          rw [List.take_add_one, HY.out]
          intro z hz
          rcases List.mem_append.1 hz with q | q
          · exact HK.out z q
          · simp only [Option.toList_some, List.mem_singleton] at q; rw [q]; exact d
        rw [d] at HC
        clear d
        go_wp2_with fail
        refine HC.out.mono ?_
        rintro e w1 ⟨rfl, rfl⟩
        go_wp2_with fail
        exact ⟨⟨k + 1, by omega, by go_num, HK2, trivial⟩, by simp [intOf]; omega⟩
    · have hlt' : ¬ (k : Int) < (l.length : Int) := by omega
      obtain rfl : k = l.length := by omega
      have HM : Hid (decide ((-1 : Int) ≥ 0) = l.any badS) := by
        have h1 := HK.out
        rw [List.take_length] at h1
        have h2 : l.any badS = false := by
          rw [List.any_eq_false]
          intro y hy
          rw [h1 y hy]
          decide
        unfold Hid
        rw [h2]
        decide
      go_wp2_with fail
      go_ret
      exact ⟨_, rfl, HM, rfl⟩
theorem ret_boolQ {x y : Bool} (h : x = y) : Ending.returned (.bool x) = .returned (.bool y) := by rw [h]
theorem contains_any (l : List Int) (a : Option Addr) (n c : Nat) (w : World) (hv : IntsR w (.slice a n c) l) :
    Calls Try.prog 27 #[.slice a n c, .func (.func 28) #[] #[]] w fun e w' => e = .returned (.bool (l.any badS)) ∧ w' = w := by
  have HI := hid (indexI_any l _ w hv)
  go_enter Try.func27, Try.ntmps27
  go_wp2_with fail
  refine HI.out.mono ?_
  rintro e w1 ⟨r, rfl, HR, rfl⟩
  go_wp2_with fail
  go_ret
  refine ⟨ret_boolQ ?_, rfl⟩
  rw [← HR.out]
/-- What lies in Thin's loop. -/
structure ThW (w : World) (B b : Nat) (bot : Bool) (v vl : Value) (T L : List En) (r : Loop) (W : World) : Prop where
  bx : W.heap[w.heap.size]? = some (.cells #[.bool bot] 4)
  mp : MapW W b T
  mb : W.heap[B]? = some (.cells #[.map (some b)] 60)
  lb : W.heap[B + 1]? = some (.cells #[vl] 22)
  kb : W.heap[B + 2]? = some (.cells #[v] 22)
  dfr : W.heap[B + 3]? = some (.deferred (some []))
  loop : W.heap[B + 4]? = some (.loop r)
  ol : OwnE W (B + 5) vl L
  below : Below w.heap.size w W
  hN : w.heap.size < B
  hM : b < B
theorem ThW.hb {w : World} {B b : Nat} {bot : Bool} {v vl : Value} {T L : List En} {r : Loop} {W : World} (H : ThW w B b bot v vl T L r W) : B + 5 ≤ W.heap.size := by
  have := blk_lt H.loop
  omega
theorem ThW.up {w : World} {B b : Nat} {bot : Bool} {v vl : Value} {T L : List En} {r : Loop} {W W' : World} (H : ThW w B b bot v vl T L r W) (h : Below W.heap.size W W') : ThW w B b bot v vl T L r W' :=
  ⟨blk_up H.bx h, H.mp.up h, blk_up H.mb h, blk_up H.lb h, blk_up H.kb h, blk_up H.dfr h, blk_up H.loop h, H.ol.up h, up_trans H.below h, H.hN, H.hM⟩
theorem ThW.put {w : World} {B b : Nat} {bot : Bool} {v vl : Value} {T L : List En} {r : Loop} {W : World} (H : ThW w B b bot v vl T L r W) (r' : Loop) : ThW w B b bot v vl T L r' (W.putObj (B + 4) (.loop r')) := by
  have g := grownBy_putObj' W (B + 4) (.loop r')
  have hN := H.hN
  have hM := H.hM
  exact ⟨blk_grown H.bx g (by simp; omega), H.mp.kept g (by simp; omega), blk_grown H.mb g (by simp), blk_grown H.lb g (by simp), blk_grown H.kb g (by simp), blk_grown H.dfr g (by simp), World.putObj_heap_same (blk_lt H.loop), OwnR.apart H.ol g (fun k hk => by simp at hk; omega), H.below.grown g H.below.size (fun j hj => by simp at hj; omega), H.hN, H.hM⟩
theorem ThW.setL {w : World} {B b : Nat} {bot : Bool} {v vl vl' : Value} {T L L' : List En} {r : Loop} {W W' : World} (H : ThW w B b bot v vl T L r W) (ho : OwnE W' (B + 5) vl' L') (hg : W.grownBy W' vl.ownBlock) :
    W'.heap[B + 1]? = some (.cells #[vl] 22) ∧ ThW w B b bot v vl' T L' r (W'.setCell ⟨B + 1, 0, none⟩ vl') := by
  have hk : ∀ k, k < B + 5 → some k ≠ vl.ownBlock := fun k hk e => by have := (H.ol.2.lt _ e.symm).1; omega
  have hN := H.hN
  have hM := H.hM
  have g2 := grown_set W' ⟨B + 1, 0, none⟩ vl'
  have key : ∀ k, k < B + 5 → ∀ o, W.heap[k]? = some o → W'.heap[k]? = some o := fun k h o ho => blk_grown ho hg (hk k h)
  have u1 : Below w.heap.size w W' := H.below.grown hg H.below.size (fun k hk => by have := (H.ol.2.lt k hk).1; omega)
  refine ⟨key (B + 1) (by omega) _ H.lb, blk_grown (key _ (by omega) _ H.bx) g2 (by simp; omega), (H.mp.kept hg (hk b (by omega))).kept g2 (by simp; omega), blk_grown (key B (by omega) _ H.mb) g2 (by simp), blk_set (key (B + 1) (by omega) _ H.lb) 0 _, blk_grown (key (B + 2) (by omega) _ H.kb) g2 (by simp), blk_grown (key (B + 3) (by omega) _ H.dfr) g2 (by simp), blk_grown (key (B + 4) (by omega) _ H.loop) g2 (by simp), OwnR.apart ho g2 (fun k hk => by simp at hk; omega), u1.grown g2 u1.size (fun j hj => by simp at hj; omega), H.hN, H.hM⟩
/-- What is left of the first j keys. -/
def leftT (l T : List En) (bot : Bool) (j : Nat) : List En := (((groupsM l).take j).map (oneT T bot)).flatten
set_option maxHeartbeats 8000000 in
theorem thin_any (l : List En) (snaps : List Int) (bot : Bool) (a : Option Addr) (n c : Nat) (sa : Option Addr) (sn sc : Nat) (w : World) (hv : EntsR w (.slice a n c) l) (hi : IntsR w (.slice sa sn sc) snaps) (hl : l.length ≤ 2932031007402) :
    Calls Try.prog 18 #[.slice a n c, .slice sa sn sc, .bool bot] w fun e w' => ∃ a' n' c', e = .returned (.tuple #[.slice a' n' c', .int .i64 (thinP l snaps)]) ∧ Hid (EntsR w' (.slice a' n' c') (thinM l snaps bot)) ∧ Hid (Below w.heap.size w w') := by
  have HV : Hid (EntsR w (.slice a n c) l) := hv
  have HI : Hid (IntsR w (.slice sa sn sc) snaps) := hi
  obtain ⟨a1, c1, e1, hc, hm⟩ := hv.len
  simp only [Value.slice.injEq] at e1
  obtain ⟨rfl, hn, rfl⟩ := e1
  subst hn
  obtain ⟨a1, c1, e1, hc1, hm1⟩ := hi.len
  simp only [Value.slice.injEq] at e1
  obtain ⟨rfl, hn, rfl⟩ := e1
  subst hn
  obtain ⟨b, off, hba⟩ := ents_addr hv
  have HBA := hid hba
  clear hv hi hba
  obtain ⟨w1, hw1⟩ : ∃ w1, w1 = w.alloc (.cells #[.bool bot] 4) := ⟨_, rfl⟩
  have HW1 : Hid (w.alloc (.cells #[.bool bot] 4) = w1) := hw1.symm
  have U1 : Hid (Below w.heap.size w w1) := by rw [hw1]; exact up_alloc _ _
  have B1 : Hid (w1.heap[w.heap.size]? = some (.cells #[.bool bot] 4)) := by rw [hw1]; exact blk_new _ _
  have HCK := hid (mcheck_any l (.slice a l.length c) w1 (HV.out.up U1.out))
  have HBAD : Hid (thinP l snaps ≠ 0 → thinM l snaps bot = []) := by
    intro h
    unfold thinM
    rw [if_neg (fun q => h ((thinP_iff l snaps).2 q))]
  clear hw1
  refine (callsIn_wide (n := 9)).1 ?_
  refine callsIn_of_wp_marks Try.func18 rfl trivial ?_ rfl
  simp only [Try.ntmps18, List.size_toArray, List.length_cons, List.length_nil, Nat.reduceAdd, Nat.reduceSub, Array.replicate_succ, Array.replicate_zero, List.push_toArray, List.append_toArray, List.nil_append, List.cons_append]
  gi_wp2_with fail
  rw [HW1.out]
  refine (callsIn_wide.2 HCK.out).mono ?_
  rintro e w2 ⟨rfl, u2⟩
  have U2 : Hid (Below w.heap.size w w2) := up_trans U1.out u2.out
  have B2 : Hid (w2.heap[w.heap.size]? = some (.cells #[.bool bot] 4)) := blk_up B1.out u2.out
  clear HCK u2 U1 B1
  by_cases h0 : chkP l = 0
  case neg =>
    have HC0 : Hid (chkP l = thinP l snaps) := by unfold Hid thinP; rw [if_pos h0]
    have HSM : Hid (thinM l snaps bot = []) := HBAD.out (by rw [← HC0.out]; exact h0)
    have hb : (chkP l != 0) = true := by simp [h0]
    have hb2 : (chkP l = 0) = False := by simp [h0]
    clear h0
    gi_wp2_with fail
    refine ⟨_, results_two (i := 6) (j := 7) rfl _ _, ?_⟩
    exact ⟨none, 0, 0, ret_two HC0.out, by unfold Hid; rw [HSM.out]; exact Rws.nil _ _, U2.out⟩
  have HO : Hid (ordL l = 0) := (chkP_iff l).1 h0
  have HT0 : Hid (thinP l snaps = if 16 < snaps.length then 3 else if snaps.any badS = true then 4 else 0) := by unfold Hid thinP; rw [if_neg (by simpa using h0)]
  rw [h0]
  clear h0
  by_cases h16 : 16 < snaps.length
  · have h16' : (16 : Int) < (snaps.length : Int) := by omega
    have HC0 : Hid ((3 : Int) = thinP l snaps) := by unfold Hid; rw [HT0.out, if_pos h16]
    have HSM : Hid (thinM l snaps bot = []) := HBAD.out (by rw [← HC0.out]; decide)
    gi_wp2_with fail
    refine ⟨_, results_two (i := 6) (j := 7) rfl _ _, ?_⟩
    exact ⟨none, 0, 0, ret_two HC0.out, by unfold Hid; rw [HSM.out]; exact Rws.nil _ _, U2.out⟩
  have h16' : ¬ (16 : Int) < (snaps.length : Int) := by omega
  have HT1 : Hid (thinP l snaps = if snaps.any badS = true then 4 else 0) := by unfold Hid; rw [HT0.out, if_neg h16]
  have HCF := hid (contains_any snaps sa snaps.length sc w2 (HI.out.up U2.out))
  clear HT0
  gi_wp2_with fail
  refine (callsIn_wide.2 HCF.out).mono ?_
  rintro e wx ⟨rfl, rfl⟩
  clear HCF
  cases hbd : snaps.any badS
  case true =>
    have HC0 : Hid ((4 : Int) = thinP l snaps) := by unfold Hid; rw [HT1.out, if_pos hbd]
    have HSM : Hid (thinM l snaps bot = []) := HBAD.out (by rw [← HC0.out]; decide)
    gi_wp2_with fail
    refine ⟨_, results_two (i := 6) (j := 7) rfl _ _, ?_⟩
    exact ⟨none, 0, 0, ret_two HC0.out, by unfold Hid; rw [HSM.out]; exact Rws.nil _ _, U2.out⟩
  have HC0 : Hid ((0 : Int) = thinP l snaps) := by unfold Hid; rw [HT1.out, hbd]; rfl
  have HSM : Hid (thinM l snaps bot = thinL l snaps bot) := by
    unfold Hid thinM
    rw [if_pos ((thinP_iff l snaps).1 HC0.out.symm)]
  have HMY : Hid (∀ x ∈ l, mayE x = true) := ((ord_iff l).1 HO.out).1
  have HAS : Hid (Asc l) := ((ord_iff l).1 HO.out).2
  have HSB := hid (seenBy_any l HMY.out snaps (by omega) a l.length c sa snaps.length sc wx (HV.out.up U2.out) (HI.out.up U2.out) hl)
  have HCU := hid (fun w => byKey_any a l.length c w)
  clear HT1 hbd HBAD h16
  gi_wp2_with fail
  refine (callsIn_wide.2 HSB.out).mono ?_
  rintro e w4 ⟨mb, rfl, HM4, u4⟩
  have U4 : Hid (Below w.heap.size w w4) := up_trans U2.out u4.out
  have B4 : Hid (w4.heap[w.heap.size]? = some (.cells #[.bool bot] 4)) := blk_up B2.out u4.out
  clear HSB u4 U2 B2
  generalize hTT : tagsL l snaps (groupsM l).length = T at *
  have HTT : Hid (tagsL l snaps (groupsM l).length = T) := hTT
  clear hTT
  gi_wp2_with fail
  refine (callsIn_wide.2 (HCU.out _)).mono ?_
  rintro e wy ⟨rfl, rfl⟩
  gi_wp2_with fail
  obtain ⟨w3, hw3⟩ : ∃ w3 : World, w3 = ((w4.alloc (.cells #[.map (some mb)] 60)).alloc (.cells #[.slice none 0 0] 22)).alloc (.cells #[.slice a l.length c] 22) := ⟨_, rfl⟩
  have d3 : w3.heap.size = w4.heap.size + 3 := by rw [hw3]; simp
  have c0 : w3.heap[w.heap.size]? = some (.cells #[.bool bot] 4) := by rw [hw3]; exact blk_al (blk_al (blk_al B4.out _) _) _
  have cm : MapW w3 mb T := by rw [hw3]; exact ((HM4.out.up (up_alloc _ _)).up (up_alloc _ _)).up (up_alloc _ _)
  have c1 : w3.heap[w4.heap.size]? = some (.cells #[.map (some mb)] 60) := by rw [hw3]; exact blk_al (blk_al (blk_nw _ _ rfl) _) _
  have c2 : w3.heap[w4.heap.size + 1]? = some (.cells #[.slice none 0 0] 22) := by rw [hw3]; exact blk_al (blk_nw _ _ (by simp)) _
  have c3 : w3.heap[w4.heap.size + 2]? = some (.cells #[.slice a l.length c] 22) := by rw [hw3]; exact blk_nw _ _ (by simp)
  have u3 : Below w.heap.size w w3 := by rw [hw3]; exact up_al (up_al (up_al U4.out _) _) _
  rw [← hw3]
  clear hw3
  refine range_law rfl (enters_of Try.func38 (by kernel_rfl) rfl) ?_
  intro r r1 r2 r3 r4 r5 r6
  rw [d3]
  have J0 : ThW w w4.heap.size mb bot (.slice a l.length c) (.slice none 0 0) T [] r ((w3.alloc (.deferred (some []))).alloc (.loop r)) := by
    refine ⟨blk_al (blk_al c0 _) _, (cm.up (up_alloc _ _)).up (up_alloc _ _), blk_al (blk_al c1 _) _, blk_al (blk_al c2 _) _, blk_al (blk_al c3 _) _, blk_al (blk_nw _ _ (by omega)) _, blk_nw _ _ (by simp; omega), OwnR.nil _ _ _ _, up_al (up_al u3 _) _, blk_lt B4.out, HM4.out.lt⟩
  generalize (w3.alloc (.deferred (some []))).alloc (.loop r) = W1 at *
  refine (key_in 8 (w4.heap.size + 4) (w4.heap.size + 2) l a b off c HBA.out hc (by omega)
    (fun j W => ∃ pa pn pc, ThW w w4.heap.size mb bot (.slice a l.length c) (.slice pa pn pc) T (leftT l T bot j) r W)
    W1 ?hY ?hK ?hA ?hD ⟨none, 0, 0, J0⟩).mono ?post
  case hK =>
    rintro i W' ⟨_, _, _, H⟩
    exact ⟨blk_cell H.kb 0 _ rfl, HV.out.up H.below⟩
  case hA =>
    rintro i W' o ⟨pa, pn, pc, H⟩
    exact ⟨pa, pn, pc, H.up (up_alloc _ _)⟩
  case hD =>
    rintro i W' d ⟨pa, pn, pc, H⟩
    exact ⟨pa, pn, pc, H.up (up_drewN _ _)⟩
  case post =>
    rintro e W' ⟨hv, pa, pn, pc, H⟩
    refine ⟨hv, ?_⟩
    refine ⟨r, H.loop, (by rw [r1]; simp), .inl ⟨r2, ?_⟩⟩
    have H2 := H.put { r with state := .exhausted }
    have HTE : Hid (leftT l T bot (groupsM l).length = thinM l snaps bot) := by
      unfold Hid leftT
      rw [List.take_length, HSM.out, ← HTT.out]
      exact oneT_eq HAS.out snaps bot
    rw [HTE.out] at H2
    have HH := hid H2
    generalize W'.putObj (w4.heap.size + 4) (.loop { r with state := .exhausted }) = W2 at *
    clear H H2 J0 c0 c1 c2 c3 cm u3 r1 r2 r3 r4 r5 r6
    have q1 := blk_cell HH.out.lb 0 _ rfl
    gi_wp2_with fail
    refine ⟨by simp, .inl ⟨_, _, rfl, run_takeDeferred (ds := []) HH.out.dfr, ?_⟩⟩
    have g3 := grownBy_putObj' W2 (w4.heap.size + 3) (.deferred none)
    have hN := HH.out.hN
    refine ⟨_, results_two (i := 6) (j := 7) rfl _ _, ?_⟩
    exact ⟨pa, pn, pc, ret_two HC0.out, Rws.own (OwnR.apart HH.out.ol g3 (fun k hk => by simp at hk; omega)), HH.out.below.grown g3 HH.out.below.size (fun j hj => by simp at hj; omega)⟩
  case hY =>
    rintro j p g W0 hg hp ⟨pa, pn, pc, H⟩
    obtain ⟨g1, g2, g3⟩ := group_at hg
    have HPT : Hid (∀ W : World, Below w.heap.size w W → EntsR W (partG b off c p g.length) g) := fun W hW => by
      have h1 := HV.out.up hW
      rw [HBA.out (group_ne hg)] at h1
      have := ents_part h1 p g.length g1 (by rw [hp]; exact g2)
      rw [hp, g3] at this
      rw [hp]
      exact this
    unfold partG at HPT ⊢
    have HGM : Hid (∀ x ∈ g, mayE x = true) := fun x hx => HMY.out x (by
      rw [← groups_join l]
      exact List.mem_flatten.2 ⟨g, List.mem_of_getElem? hg, hx⟩)
    have HL1 : Hid (leftT l T bot (j + 1) = (leftT l T bot j) ++ oneT T bot g) := by
      unfold Hid leftT
      rw [List.take_add_one, hg, List.map_append, List.flatten_append]
      simp
    have HLN : Hid ((leftT l T bot j).length + g.length ≤ 2932031007402) := by
      have := oneT_sum T bot ((groupsM l).take j)
      unfold Hid leftT
      omega
    have HON : Hid ((oneT T bot g).length ≤ g.length) := oneT_len T bot g
    have hgl : g.length ≤ 2932031007402 := by omega
    clear g1 g2 g3 hp hg
    refine ⟨r.fn, _, r.assign, r.body, run_yield H.loop (by rw [r4]; rfl), roundIn_of_wpIn trivial ?_⟩
    rw [r3, r4, r5, r6]
    gi_wp2_with fail
    refine ⟨_, run_beginRound H.loop r1, ?_⟩
    have H2 := H.put { r with state := .busy }
    generalize W0.putObj (w4.heap.size + 4) (.loop { r with state := .busy }) = Wb at *
    have HB := hid H2
    have HR : Hid (r.state = .ready ∧ r.pending = none) := ⟨r1, r2⟩
    clear H H2 J0 c0 c1 c2 c3 cm u3 r1 r2 r3 r4 r5 r6
    have HEND : Hid (∀ vl' L' W6, ThW w w4.heap.size mb bot (.slice a l.length c) vl' T L' { r with state := .busy } W6 → leftT l T bot (j + 1) = L' → ThW w w4.heap.size mb bot (.slice a l.length c) vl' T (leftT l T bot (j + 1)) r (W6.putObj (w4.heap.size + 4) (.loop r))) := by
      intro vp' P' W6 h e
      rw [e]
      exact h.put r
    generalize (leftT l T bot j) = L at *
    have q1 := blk_cell HB.out.mb 0 _ rfl
    have HST := hid (staying_any g HGM.out hgl T mb (some ⟨b, off + p * 4, none⟩) g.length (c - p) Wb (HPT.out _ HB.out.below) HB.out.mp)
    gi_wp2_with fail
    refine (CallsIn.inRound _ (callsIn_wide.2 HST.out)).mono ?_
    rintro e W4 ⟨xa, xn, xc, rfl, HX, u4⟩
    have HB4 := hid (HB.out.up u4.out)
    have q2 := blk_cell HB4.out.bx 0 _ rfl
    clear HST HB u4 q1
    have hfin : ∀ (W5 : World) (ya : Option Addr) (yn yc : Nat), ThW w w4.heap.size mb bot (.slice a l.length c) (.slice pa pn pc) T L { r with state := .busy } W5 → EntsR W5 (.slice ya yn yc) (oneT T bot g) → True := fun _ _ _ _ _ _ => trivial
    clear hfin
    cases bot with
    | false =>
      have HXE : Hid (EntsR W4 (.slice xa xn xc) (oneT T false g)) := by
        unfold Hid oneT
        rw [if_neg (by decide)]
        exact HX.out.read
      clear HX
      have hz1 : ((L.map enRow).length + ((oneT T false g).map enRow).length) * 48 ≤ 140737488355328 := by
        have := HLN.out
        have := HON.out
        rw [List.length_map, List.length_map]
        omega
      have hz2 : (L.map enRow).length + ((oneT T false g).map enRow).length ≤ maxLen := by
        have := HLN.out
        have := HON.out
        rw [List.length_map, List.length_map]
        unfold maxLen
        omega
      have HZ := hid (And.intro hz1 hz2)
      clear hz1 hz2
      have q3 := blk_cell HB4.out.lb 0 _ rfl
      generalize hOT : oneT T false g = OT at *
      clear hOT
      gi_wp2_with (gi_at_builtin; refine wpListIn_append_rowsQ W4 rfl _ _ 22 47 _ 4 48 rfl Try.underlying22 Try.infoE rfl (by decide) (w4.heap.size + 5) (.slice pa pn pc) (L.map enRow) rfl HB4.out.ol (.slice xa xn xc) (OT.map enRow) rfl HXE.out (rows_oneE OT) HZ.out.1 HZ.out.2 HB4.out.hb ?_)
      intro v5 W6 ho hgr
      obtain ⟨a5, n5, c5, rfl⟩ := rows_shape ho
      rw [← List.map_append] at ho
      obtain ⟨k1, H6⟩ := HB4.out.setL ho hgr
      have p1 := blk_cell k1 0 _ rfl
      have p2 := blk_frozen k1 0
      have HB6 := hid H6
      clear ho hgr k1 H6 q3
      gi_wp2_with fail
      have hend := run_endRound (P := Try.prog) none HB6.out.loop
      rw [loop_back HR.out] at hend
      exact ⟨_, _, hend, rfl, _, _, _, HEND.out _ _ _ HB6.out HL1.out⟩
    | true =>
      have HGE := hid (goneEnd_any (g.filter (seenB T)) 0 xa xn xc W4 HX.out.read)
      gi_wp2_with fail
      refine (CallsIn.inRound _ (callsIn_wide.2 HGE.out)).mono ?_
      rintro e W5 ⟨ya, yn, yc, rfl, HY, u5⟩
      have HB5 := hid (HB4.out.up u5.out)
      have HXE : Hid (EntsR W5 (.slice ya yn yc) (oneT T true g)) := by
        unfold Hid oneT
        rw [if_pos rfl]
        exact HY.out
      clear HGE HX HY u5 HB4 q2
      have hz1 : ((L.map enRow).length + ((oneT T true g).map enRow).length) * 48 ≤ 140737488355328 := by
        have := HLN.out
        have := HON.out
        rw [List.length_map, List.length_map]
        omega
      have hz2 : (L.map enRow).length + ((oneT T true g).map enRow).length ≤ maxLen := by
        have := HLN.out
        have := HON.out
        rw [List.length_map, List.length_map]
        unfold maxLen
        omega
      have HZ := hid (And.intro hz1 hz2)
      clear hz1 hz2
      have q3 := blk_cell HB5.out.lb 0 _ rfl
      generalize hOT : oneT T true g = OT at *
      clear hOT
      gi_wp2_with (gi_at_builtin; refine wpListIn_append_rowsQ W5 rfl _ _ 22 47 _ 4 48 rfl Try.underlying22 Try.infoE rfl (by decide) (w4.heap.size + 5) (.slice pa pn pc) (L.map enRow) rfl HB5.out.ol (.slice ya yn yc) (OT.map enRow) rfl HXE.out (rows_oneE OT) HZ.out.1 HZ.out.2 HB5.out.hb ?_)
      intro v5 W6 ho hgr
      obtain ⟨a5, n5, c5, rfl⟩ := rows_shape ho
      rw [← List.map_append] at ho
      obtain ⟨k1, H6⟩ := HB5.out.setL ho hgr
      have p1 := blk_cell k1 0 _ rfl
      have p2 := blk_frozen k1 0
      have HB6 := hid H6
      clear ho hgr k1 H6 q3
      gi_wp2_with fail
      have hend := run_endRound (P := Try.prog) none HB6.out.loop
      rw [loop_back HR.out] at hend
      exact ⟨_, _, hend, rfl, _, _, _, HEND.out _ _ _ HB6.out HL1.out⟩
end Go.Proofs.Ytfnddbglopoghaa
