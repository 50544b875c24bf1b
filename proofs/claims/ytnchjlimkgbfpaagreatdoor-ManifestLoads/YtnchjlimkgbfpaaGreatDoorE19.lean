/- The texts AApply, AWhole, P5, in this order. -/
import Derived.Test.YtnchjlimkgbfpaaGreatDoorE18
import Derived.Test.YtnchjlimkgbfpaaGreatDoorE15

namespace Go.Proofs.YtnchjlimkgbfpaaGreatDoor
open Go.RowKit
set_option linter.unusedVariables false
set_option maxRecDepth 20000
set_option linter.unusedSimpArgs false
theorem results_ver {fn : Func} {t : TypeId} {p q : Nat} (h : fn.results = #[.cell p t, .tmp q]) (hl : t = 39 ∨ t = 28) (tmps : Array Value) (w : World) {N : Nat} {a b c : Value} (ht : tmps.getD p undef = .pointer (some ⟨N, 0, none⟩))
    (hc : w.heap[N]? = some (.cells #[a, b, c] t)) : (results fn tmps).run Tryz.prog w = .ok (.tuple #[.agg #[a, b, c], tmps.getD q undef]) w := by
  have c0 := blk_cell hc 0 a rfl
  have c1 := blk_cell hc 1 b rfl
  have c2 := blk_cell hc 2 c rfl
  have ht' : tmps[p]?.getD undef = .pointer (some ⟨N, 0, none⟩) := by simpa using ht
  rcases hl with rfl | rfl
  · simp only [results, h]
    simp [ht', go_sem, c0, c1, c2]
  · simp only [results, h]
    simp [ht', go_sem, c0, c1, c2]
theorem results_edt {fn : Func} {t : TypeId} {p q : Nat} (h : fn.results = #[.cell p t, .tmp q]) (hl : t = 42 ∨ t = 31) (tmps : Array Value) (w : World) {N : Nat} {a b c d : Value} (ht : tmps.getD p undef = .pointer (some ⟨N, 0, none⟩))
    (hc : w.heap[N]? = some (.cells #[a, b, c, d] t)) : (results fn tmps).run Tryz.prog w = .ok (.tuple #[.agg #[a, b, c, d], tmps.getD q undef]) w := by
  have c0 := blk_cell hc 0 a rfl
  have c1 := blk_cell hc 1 b rfl
  have c2 := blk_cell hc 2 c rfl
  have c3 := blk_cell hc 3 d rfl
  have ht' : tmps[p]?.getD undef = .pointer (some ⟨N, 0, none⟩) := by simpa using ht
  rcases hl with rfl | rfl
  · simp only [results, h]
    simp [ht', go_sem, c0, c1, c2, c3]
  · simp only [results, h]
    simp [ht', go_sem, c0, c1, c2, c3]
theorem set3_blk {W : World} {N : Nat} {x y z : Value} {t : TypeId} (h : W.heap[N]? = some (.cells #[x, y, z] t)) (a b c : Value) : (((W.setCell ⟨N, 0, none⟩ a).setCell ⟨N, 1, none⟩ b).setCell ⟨N, 2, none⟩ c).heap[N]? = some (.cells #[a, b, c] t) :=
  blk_set (blk_set (blk_set h 0 a) 1 b) 2 c
theorem set3_grown (W : World) (N : Nat) (a b c : Value) : W.grownBy (((W.setCell ⟨N, 0, none⟩ a).setCell ⟨N, 1, none⟩ b).setCell ⟨N, 2, none⟩ c) (some N) :=
  grown_trans (grown_trans (grown_set W ⟨N, 0, none⟩ a) (grown_set _ ⟨N, 1, none⟩ b)) (grown_set _ ⟨N, 2, none⟩ c)
theorem set4_blk {W : World} {N : Nat} {x y z u : Value} {t : TypeId} (h : W.heap[N]? = some (.cells #[x, y, z, u] t)) (a b c d : Value) : ((((W.setCell ⟨N, 0, none⟩ a).setCell ⟨N, 1, none⟩ b).setCell ⟨N, 2, none⟩ c).setCell ⟨N, 3, none⟩ d).heap[N]? = some (.cells #[a, b, c, d] t) :=
  blk_set (blk_set (blk_set (blk_set h 0 a) 1 b) 2 c) 3 d
theorem set4_grown (W : World) (N : Nat) (a b c d : Value) : W.grownBy ((((W.setCell ⟨N, 0, none⟩ a).setCell ⟨N, 1, none⟩ b).setCell ⟨N, 2, none⟩ c).setCell ⟨N, 3, none⟩ d) (some N) :=
  grown_trans (set3_grown W N a b c) (grown_set _ ⟨N, 3, none⟩ d)
theorem blk_low {B : Nat} {w w' : World} {N : Nat} {o : Obj} (h : w.heap[N]? = some o) (hb : Below B w w') (hN : N < B) : w'.heap[N]? = some o := (hb.block N hN).trans h
def AppE (w : World) (r : List Me × Int) (s n : Int) (e : Ending) (w' : World) : Prop :=
  ∃ a l c, e = .returned (.tuple #[.agg #[.slice a l c, .int .i64 (if r.2 = 0 then s else 0), .int .i64 (if r.2 = 0 then n else 0)], .int .i64 r.2]) ∧ OwnR w' w.heap.size 148 5 (.slice a l c) (r.1.map meRow) ∧ Below w.heap.size w w'
set_option maxHeartbeats 8000000 in
set_option maxRecDepth 100000 in
theorem apply_any (ts : List Me) (seq next : Int) (drop : List Int) (add : List Me) (seq2 next2 : Int) (va da aa : Option Addr) (vn vc dn dc an ac : Nat) (w : World)
    (hv : MetsR w (.slice va vn vc) ts) (hd : IntsR w (.slice da dn dc) drop) (ha : MetsR w (.slice aa an ac) add) (hdi : ∀ i ∈ drop, In64 i) (hal : add.length ≤ 4000000000000) :
    Calls Tryz.prog 137 #[.agg #[.slice va vn vc, .int .i64 seq, .int .i64 next], .agg #[.slice da dn dc, .slice aa an ac, .int .i64 seq2, .int .i64 next2]] w (AppE w (appM ts seq next drop add seq2 next2) seq2 next2) := by
  obtain ⟨Post, hP⟩ : ∃ Post : Ending → World → Prop, Post = AppE w (appM ts seq next drop add seq2 next2) seq2 next2 := ⟨_, rfl⟩
  have HP : Hid (∀ e w', AppE w (appM ts seq next drop add seq2 next2) seq2 next2 e w' → Post e w') := fun e w' h => by rw [hP]; exact h
  rw [← hP]
  clear hP
  have HV : Hid (MetsR w (.slice va vn vc) ts) := hv
  have HD : Hid (IntsR w (.slice da dn dc) drop) := hd
  have HA : Hid (MetsR w (.slice aa an ac) add) := ha
  have HDI : Hid (∀ i ∈ drop, In64 i) := hdi
  clear hv hd ha hdi
  obtain ⟨w0, hw0⟩ : ∃ w0, w0 = ((w.alloc (.cells #[.slice va vn vc, .int .i64 seq, .int .i64 next] 39)).alloc (.cells #[.slice da dn dc, .slice aa an ac, .int .i64 seq2, .int .i64 next2] 42)).alloc (.cells #[.slice none 0 0, .int .i64 0, .int .i64 0] 39) := ⟨_, rfl⟩
  have HW0 : Hid (((w.alloc (.cells #[.slice va vn vc, .int .i64 seq, .int .i64 next] 39)).alloc (.cells #[.slice da dn dc, .slice aa an ac, .int .i64 seq2, .int .i64 next2] 42)).alloc (.cells #[.slice none 0 0, .int .i64 0, .int .i64 0] 39) = w0) := hw0.symm
  have U0 : Hid (Below w.heap.size w w0) := by rw [hw0]; exact up_al (up_al (up_alloc _ _) _) _
  have B0 : Hid (w0.heap[w.heap.size]? = some (.cells #[.slice va vn vc, .int .i64 seq, .int .i64 next] 39)) := by rw [hw0]; exact blk_up (blk_up (blk_new _ _) (up_alloc _ _)) (up_alloc _ _)
  have B1 : Hid (w0.heap[w.heap.size + 1]? = some (.cells #[.slice da dn dc, .slice aa an ac, .int .i64 seq2, .int .i64 next2] 42)) := by
    rw [hw0]
    have := blk_new (w.alloc (.cells #[.slice va vn vc, .int .i64 seq, .int .i64 next] 39)) (.cells #[.slice da dn dc, .slice aa an ac, .int .i64 seq2, .int .i64 next2] 42)
    rw [show (w.alloc (.cells #[.slice va vn vc, .int .i64 seq, .int .i64 next] 39)).heap.size = w.heap.size + 1 by simp] at this
    exact blk_up this (up_alloc _ _)
  have B2 : Hid (w0.heap[w.heap.size + 1 + 1]? = some (.cells #[.slice none 0 0, .int .i64 0, .int .i64 0] 39)) := by
    rw [hw0]
    have := blk_new ((w.alloc (.cells #[.slice va vn vc, .int .i64 seq, .int .i64 next] 39)).alloc (.cells #[.slice da dn dc, .slice aa an ac, .int .i64 seq2, .int .i64 next2] 42)) (.cells #[.slice none 0 0, .int .i64 0, .int .i64 0] 39)
    rw [show ((w.alloc (.cells #[.slice va vn vc, .int .i64 seq, .int .i64 next] 39)).alloc (.cells #[.slice da dn dc, .slice aa an ac, .int .i64 seq2, .int .i64 next2] 42)).heap.size = w.heap.size + 1 + 1 by simp] at this
    exact this
  have SZ : Hid (w0.heap.size = w.heap.size + 1 + 1 + 1) := by rw [hw0]; unfold Hid; simp
  clear hw0
  have HCK : Hid (Calls Tryz.prog 71 #[.agg #[.slice va vn vc, .int .i64 seq, .int .i64 next]] w0 fun e w' => e = .returned (.int .i64 (errV ts seq next)) ∧ Hid (Below w0.heap.size w0 w')) := check_anyE ts seq next va vn vc w0 (HV.out.up U0.out)
  have x0 := blk_cell B0.out 0 _ rfl
  have x1 := blk_cell B0.out 1 _ rfl
  have x2 := blk_cell B0.out 2 _ rfl
  go_enter Tryz.func137, Tryz.ntmps137
  go_upto_region 1 with fail
  rw [HW0.out]
  clear HW0
  generalize hN1 : w.heap.size + 1 + 1 = N2 at *
  generalize hN0 : w.heap.size + 1 = N1 at *
  have HN : Hid (w.heap.size < w0.heap.size ∧ N1 < w0.heap.size ∧ N2 < w0.heap.size ∧ w.heap.size ≤ N2 ∧ N1 ≠ N2 ∧ w.heap.size ≠ N2) := by have := SZ.out; unfold Hid; omega
  clear SZ hN0 hN1
  rcases errV_cases ts seq next with hc | hc
  case inr =>
    rw [hc] at HCK
    have HR : Hid (appM ts seq next drop add seq2 next2 = ([], 9)) := app_bad hc
    clear hc
    go_wp2_with fail
    refine HCK.out.mono ?_
    rintro e w1 ⟨rfl, u1⟩
    have B2' := hid (blk_up B2.out u1.out)
    have U1 := hid (up_trans U0.out u1.out)
    have HS1 : Hid (w0.heap.size ≤ w1.heap.size) := u1.out.size
    clear u1
    have r0 := blk_cell B2'.out 0 _ rfl
    have r1 := blk_cell B2'.out 1 _ rfl
    have r2 := blk_cell B2'.out 2 _ rfl
    have f0 := blk_frozen B2'.out 0
    have f1 := blk_frozen B2'.out 1
    have f2 := blk_frozen B2'.out 2
    go_wp2_with fail
    refine bodyPost_ret (results_ver rfl (.inl rfl) _ _ rfl (set3_blk B2'.out _ _ _)) rfl ?_
    refine HP.out _ _ ?_
    rw [HR.out]
    exact ⟨none, 0, 0, rfl, OwnR.nil _ _ _ _, U1.out.trans (below_grown (set3_grown w1 N2 _ _ _) U1.out.size (fun k hk => by injection hk with hk; have := HN.out; omega))⟩
  have HC0 : Hid (errV ts seq next = 0) := hc
  rw [hc] at HCK
  clear hc
  go_wp2_with fail
  refine HCK.out.mono ?_
  rintro e w1 ⟨rfl, u1⟩
  have U1 := hid (up_trans U0.out u1.out)
  replace B0 := hid (blk_up B0.out u1.out)
  replace B1 := hid (blk_up B1.out u1.out)
  replace B2 := hid (blk_up B2.out u1.out)
  replace HN : Hid (w.heap.size < w1.heap.size ∧ N1 < w1.heap.size ∧ N2 < w1.heap.size ∧ w.heap.size ≤ N2 ∧ N1 ≠ N2 ∧ w.heap.size ≠ N2) := by have := HN.out; have := u1.out.size; unfold Hid; omega
  clear u1 HCK U0 x0 x1 x2
  clear w0
  have HWO : Hid (Calls Tryz.prog 175 #[.slice va vn vc, .slice da dn dc] w1 fun e w' => WoE w1 ts (dropIds drop (idsM ts)) e w' ∧ Hid (Below w1.heap.size w1 w')) := without_any ts drop _ _ w1 (HV.out.up U1.out) (HD.out.up U1.out) (chk_len HC0.out) (fun m hm => may_in64 (chk_may HC0.out m hm)) HDI.out
  have x0 := blk_cell B0.out 0 _ rfl
  have y0 := blk_cell B1.out 0 _ rfl
  cases hdr : dropIds drop (idsM ts) with
  | none =>
    rw [hdr] at HWO
    have HR : Hid (appM ts seq next drop add seq2 next2 = ([], 71)) := app_none HC0.out hdr
    clear hdr
    go_wp2_with fail
    refine HWO.out.mono ?_
    rintro e w2 ⟨hE, u2⟩
    unfold WoE at hE
    simp only at hE
    subst hE
    have B2' := hid (blk_up B2.out u2.out)
    have U2 := hid (up_trans U1.out u2.out)
    clear u2
    have r0 := blk_cell B2'.out 0 _ rfl
    have r1 := blk_cell B2'.out 1 _ rfl
    have r2 := blk_cell B2'.out 2 _ rfl
    have f0 := blk_frozen B2'.out 0
    have f1 := blk_frozen B2'.out 1
    have f2 := blk_frozen B2'.out 2
    go_wp2_with fail
    refine bodyPost_ret (results_ver rfl (.inl rfl) _ _ rfl (set3_blk B2'.out _ _ _)) rfl ?_
    refine HP.out _ _ ?_
    rw [HR.out]
    exact ⟨none, 0, 0, rfl, OwnR.nil _ _ _ _, U2.out.trans (below_grown (set3_grown w2 N2 _ _ _) U2.out.size (fun k hk => by injection hk with hk; have := HN.out; omega))⟩
  | some r =>
    rw [hdr] at HWO
    have HDR : Hid (dropIds drop (idsM ts) = some r) := hdr
    clear hdr
    go_wp2_with fail
    refine HWO.out.mono ?_
    rintro e w2 ⟨hE, u2⟩
    unfold WoE at hE
    simp only at hE
    obtain ⟨ta, tn, tc, rfl, hO⟩ := hE
    have HO : Hid (OwnR w2 w1.heap.size 148 5 (.slice ta tn tc) ((ts.filter (keepM r)).map meRow)) := hO
    have U2 := hid (up_trans U1.out u2.out)
    replace B0 := hid (blk_up B0.out u2.out)
    replace B1 := hid (blk_up B1.out u2.out)
    replace B2 := hid (blk_up B2.out u2.out)
    have S2 : Hid (w1.heap.size ≤ w2.heap.size) := u2.out.size
    clear hO u2 HWO x0 y0
    have x1 := blk_cell B0.out 1 _ rfl
    have x2 := blk_cell B0.out 2 _ rfl
    have y1 := blk_cell B1.out 1 _ rfl
    have y2 := blk_cell B1.out 2 _ rfl
    have y3 := blk_cell B1.out 3 _ rfl
    by_cases hr1 : seq2 < seq
    · have HR : Hid (appM ts seq next drop add seq2 next2 = ([], 4)) := app_low HC0.out HDR.out (.inl hr1)
      have B2' := hid B2.out
      have r0 := blk_cell B2'.out 0 _ rfl
      have r1 := blk_cell B2'.out 1 _ rfl
      have r2 := blk_cell B2'.out 2 _ rfl
      have f0 := blk_frozen B2'.out 0
      have f1 := blk_frozen B2'.out 1
      have f2 := blk_frozen B2'.out 2
      go_wp2_with fail
      refine bodyPost_ret (results_ver rfl (.inl rfl) _ _ rfl (set3_blk B2'.out _ _ _)) rfl ?_
      refine HP.out _ _ ?_
      rw [HR.out]
      exact ⟨none, 0, 0, rfl, OwnR.nil _ _ _ _, U2.out.trans (below_grown (set3_grown w2 N2 _ _ _) U2.out.size (fun k hk => by injection hk with hk; have := HN.out; omega))⟩
    by_cases hr2 : next2 < next
    · have HR : Hid (appM ts seq next drop add seq2 next2 = ([], 4)) := app_low HC0.out HDR.out (.inr hr2)
      have B2' := hid B2.out
      have r0 := blk_cell B2'.out 0 _ rfl
      have r1 := blk_cell B2'.out 1 _ rfl
      have r2 := blk_cell B2'.out 2 _ rfl
      have f0 := blk_frozen B2'.out 0
      have f1 := blk_frozen B2'.out 1
      have f2 := blk_frozen B2'.out 2
      go_wp2_with fail
      refine bodyPost_ret (results_ver rfl (.inl rfl) _ _ rfl (set3_blk B2'.out _ _ _)) rfl ?_
      refine HP.out _ _ ?_
      rw [HR.out]
      exact ⟨none, 0, 0, rfl, OwnR.nil _ _ _ _, U2.out.trans (below_grown (set3_grown w2 N2 _ _ _) U2.out.size (fun k hk => by injection hk with hk; have := HN.out; omega))⟩
    have HRG : Hid (¬ (seq2 < seq ∨ next2 < next)) := by unfold Hid; omega
    have HAR : Hid (Rws 5 w2 (.slice aa an ac) (add.map meRow)) := HA.out.up U2.out
    have HLF : Hid ((ts.filter (keepM r)).length ≤ 256) := by have h1 := List.length_filter_le (keepM r) ts; have h2 := chk_len HC0.out; unfold Hid; omega
    have HBN : Hid ((((((ts.filter (keepM r)).map meRow).length + (add.map meRow).length) + (((ts.filter (keepM r)).map meRow).length + (add.map meRow).length) / 4 + 192) * 56 ≤ 281474976710656) ∧ ((ts.filter (keepM r)).map meRow).length + (add.map meRow).length ≤ maxLen) := by
      have := HLF.out
      unfold Hid maxLen
      rw [List.length_map, List.length_map]
      omega
    have HON : Hid (∀ cs ∈ add.map meRow, ∀ u ∈ cs, u.oneCell' = true) := by
      intro cs hcs u hu
      obtain ⟨s, _, rfl⟩ := List.mem_map.1 hcs
      exact meRow_one s u hu
    have HTT : Hid ((ts.filter (keepM r)).map meRow ++ add.map meRow = (ts.filter (keepM r) ++ add).map meRow) := by unfold Hid; rw [List.map_append]
    have HL62 : Hid ((ts.filter (keepM r) ++ add).length < 4611686018427387904) := by have := HLF.out; unfold Hid; rw [List.length_append]; omega
    have HLAST : Hid (∀ l', l'.Perm (ts.filter (keepM r) ++ add) → SrtM l' → appM ts seq next drop add seq2 next2 = if errV l' seq2 next2 = 0 then (l', 0) else ([], 9)) := fun l' h1 h2 => app_last HC0.out HDR.out HRG.out h1 h2
    generalize ts.filter (keepM r) = T0 at *
    generalize hM0 : T0.map meRow = M0 at *
    generalize hM1 : add.map meRow = M1 at *
    clear hM0 hM1
    go_wp2_with (at_builtin; refine wpList_append_rows w2 rfl _ _ 37 148 _ 5 56 rfl Tryz.underlying37 Tryz.info148 rfl (by decide) w1.heap.size (.slice ta tn tc) M0 rfl HO.out (.slice aa an ac) M1 rfl HAR.out HON.out HBN.out.1 HBN.out.2 S2.out ?_)
    intro v3 w3 hO3 hg3
    rw [HTT.out] at hO3
    have u3 : Hid (Below w1.heap.size w2 w3) := (Below.refl _ _).grown hg3 S2.out (fun k hk => (HO.out.2.lt k hk).1)
    have HO3 : Hid (OwnR w3 w1.heap.size 148 5 v3 ((T0 ++ add).map meRow)) := hO3
    replace B0 := hid (blk_low B0.out u3.out HN.out.1)
    replace B1 := hid (blk_low B1.out u3.out HN.out.2.1)
    replace B2 := hid (blk_low B2.out u3.out HN.out.2.2.1)
    have U3 : Hid (Below w.heap.size w w3) := U2.out.trans (u3.out.mono (Nat.le_of_lt HN.out.1))
    have S3 : Hid (w1.heap.size ≤ w3.heap.size) := Nat.le_trans S2.out u3.out.size
    clear hO3 hg3 HO HAR x1 x2 y1 y2 y3 HBN HON
    obtain ⟨ta3, tc3, e3, _, _⟩ := (Rws.own HO3.out).len
    obtain ⟨tn3, hn3⟩ : ∃ tn3, tn3 = ((T0 ++ add).map meRow).length := ⟨_, rfl⟩
    rw [← hn3] at e3
    clear hn3
    subst e3
    have HSO : Hid (Calls Tryz.prog 176 #[.slice ta3 tn3 tc3, .func (.func 153) #[] #[]] w3 fun e w' => e = .returned (.tuple #[]) ∧ Hid (∃ l', l'.Perm (T0 ++ add) ∧ SrtM l' ∧ OwnR w' w1.heap.size 148 5 (.slice ta3 tn3 tc3) (l'.map meRow)) ∧ Hid (Below w1.heap.size w3 w')) := sort_any _ ta3 tn3 tc3 w1.heap.size w3 HO3.out S3.out HL62.out
    go_wp2_with fail
    refine HSO.out.mono ?_
    rintro e w4 ⟨rfl, hL, u4⟩
    obtain ⟨l', hp, hs, hO4⟩ := hL.out
    have HLA := hid (HLAST.out l' hp hs)
    have HO4 : Hid (OwnR w4 w1.heap.size 148 5 (.slice ta3 tn3 tc3) (l'.map meRow)) := hO4
    clear hp hs hO4 hL HLAST HSO HO3
    replace B0 := hid (blk_low B0.out u4.out HN.out.1)
    replace B1 := hid (blk_low B1.out u4.out HN.out.2.1)
    replace B2 := hid (blk_low B2.out u4.out HN.out.2.2.1)
    have U4 : Hid (Below w.heap.size w w4) := U3.out.trans (u4.out.mono (Nat.le_of_lt HN.out.1))
    have S4 : Hid (w1.heap.size ≤ w4.heap.size) := Nat.le_trans S3.out u4.out.size
    clear u3 u4
    have y2 := blk_cell B1.out 2 _ rfl
    have y3 := blk_cell B1.out 3 _ rfl
    obtain ⟨w5, hw5⟩ : ∃ w5, w5 = w4.alloc (.cells #[.slice ta3 tn3 tc3, .int .i64 seq2, .int .i64 next2] 39) := ⟨_, rfl⟩
    have HW5 : Hid (w4.alloc (.cells #[.slice ta3 tn3 tc3, .int .i64 seq2, .int .i64 next2] 39) = w5) := hw5.symm
    have u5 : Hid (Below w4.heap.size w4 w5) := by rw [hw5]; exact up_alloc _ _
    have B5 : Hid (w5.heap[w4.heap.size]? = some (.cells #[.slice ta3 tn3 tc3, .int .i64 seq2, .int .i64 next2] 39)) := by rw [hw5]; exact blk_new _ _
    clear hw5
    go_upto_region 12 with fail
    rw [HW5.out]
    clear HW5 y2 y3
    have U5 : Hid (Below w.heap.size w w5) := up_trans U4.out u5.out
    have HO5 := hid (HO4.out.up u5.out)
    have B2' := hid (blk_up B2.out u5.out)
    have S5 : Hid (N2 ≠ w4.heap.size) := by have := HN.out; have := S4.out; unfold Hid; omega
    have HCK : Hid (Calls Tryz.prog 71 #[.agg #[.slice ta3 tn3 tc3, .int .i64 seq2, .int .i64 next2]] w5 fun e w' => e = .returned (.int .i64 (errV l' seq2 next2)) ∧ Hid (Below w5.heap.size w5 w')) := check_anyE l' seq2 next2 ta3 tn3 tc3 w5 (Rws.own HO5.out)
    clear B0 B1 B2 HO4 u5 U4
    generalize w4.heap.size = N5 at *
    have z0 := blk_cell B5.out 0 _ rfl
    have z1 := blk_cell B5.out 1 _ rfl
    have z2 := blk_cell B5.out 2 _ rfl
    rcases errV_cases l' seq2 next2 with hc | hc
    case inr =>
      rw [hc] at HCK
      have HR : Hid (appM ts seq next drop add seq2 next2 = ([], 9)) := by unfold Hid; rw [HLA.out, hc]; rfl
      clear hc
      go_wp2_with fail
      refine HCK.out.mono ?_
      rintro e w6 ⟨rfl, u6⟩
      replace B2' := hid (blk_up B2'.out u6.out)
      have U6 := hid (up_trans U5.out u6.out)
      clear u6
      have r0 := blk_cell B2'.out 0 _ rfl
      have r1 := blk_cell B2'.out 1 _ rfl
      have r2 := blk_cell B2'.out 2 _ rfl
      have f0 := blk_frozen B2'.out 0
      have f1 := blk_frozen B2'.out 1
      have f2 := blk_frozen B2'.out 2
      go_wp2_with fail
      refine bodyPost_ret (results_ver rfl (.inl rfl) _ _ rfl (set3_blk B2'.out _ _ _)) rfl ?_
      refine HP.out _ _ ?_
      rw [HR.out]
      exact ⟨none, 0, 0, rfl, OwnR.nil _ _ _ _, U6.out.trans (below_grown (set3_grown w6 N2 _ _ _) U6.out.size (fun k hk => by injection hk with hk; have := HN.out; omega))⟩
    rw [hc] at HCK
    have HR : Hid (appM ts seq next drop add seq2 next2 = (l', 0)) := by unfold Hid; rw [HLA.out, hc]; rfl
    clear hc
    go_wp2_with fail
    refine HCK.out.mono ?_
    rintro e w6 ⟨rfl, u6⟩
    replace B2' := hid (blk_up B2'.out u6.out)
    replace B5 := hid (blk_up B5.out u6.out)
    have U6 := hid (up_trans U5.out u6.out)
    have HO6 := hid (HO5.out.up u6.out)
    clear u6 z0 z1 z2
    have z0 := blk_cell B5.out 0 _ rfl
    have z1 := blk_cell B5.out 1 _ rfl
    have z2 := blk_cell B5.out 2 _ rfl
    have r0 := blk_cell B2'.out 0 _ rfl
    have r1 := blk_cell B2'.out 1 _ rfl
    have r2 := blk_cell B2'.out 2 _ rfl
    have f0 := blk_frozen B2'.out 0
    have f1 := blk_frozen B2'.out 1
    have f2 := blk_frozen B2'.out 2
    go_wp2_with fail
    refine bodyPost_ret (results_ver rfl (.inl rfl) _ _ rfl (set3_blk B2'.out _ _ _)) rfl ?_
    refine HP.out _ _ ?_
    rw [HR.out]
    refine ⟨ta3, tn3, tc3, rfl, ?_, U6.out.trans (below_grown (set3_grown w6 N2 _ _ _) U6.out.size (fun k hk => by injection hk with hk; have := HN.out; omega))⟩
    refine ((HO6.out.mono (Nat.le_of_lt HN.out.1)).far (set3_grown w6 N2 _ _ _) ?_)
    exact own_blk_ne HO6.out.2 B2'.out (by decide)
end Go.Proofs.YtnchjlimkgbfpaaGreatDoor

namespace Go.Proofs.YtnchjlimkgbfpaaGreatDoor
open Go.RowKit
set_option linter.unusedVariables false
set_option maxRecDepth 20000
set_option linter.unusedSimpArgs false
theorem new_anyE (w : World) : Calls Tryz.prog 92 #[] w fun e w' => e = .returned (.agg #[.slice none 0 0, .int .i64 0, .int .i64 1]) ∧ Hid (Below w.heap.size w w') := by
  go_enter Tryz.func92, Tryz.ntmps92
  go_wp2
  go_returns
  exact ⟨rfl, up_alloc _ _⟩
end Go.Proofs.YtnchjlimkgbfpaaGreatDoor

namespace Go.Proofs.YtnchjlimkgbfpaaGreatDoor
open Go.RowKit
set_option linter.unusedVariables false
set_option maxRecDepth 20000
def BoxW (w : World) (o : Obj) (w' : World) : Prop := Below (w.heap.size + 1) (w.alloc o) w'
theorem BoxW.start (w : World) (o : Obj) : BoxW w o (w.alloc o) := Below.refl _ _
theorem BoxW.size {w w' : World} {o : Obj} (h : BoxW w o w') : w.heap.size + 1 ≤ w'.heap.size := by
  have := Below.size h
  simpa using this
theorem BoxW.up {w w' : World} {o : Obj} (h : BoxW w o w') : Below w.heap.size w w' := (up_al (Below.refl _ _) o).trans (Below.mono h (by omega))
theorem BoxW.step {w w' w'' : World} {o : Obj} (h : BoxW w o w') (k : Below w'.heap.size w' w'') : BoxW w o w'' := Below.trans h (k.mono h.size)
theorem BoxW.cell {w w' : World} {cs : Array Value} {t : TypeId} (h : BoxW w (.cells cs t) w') (i : Nat) (x : Value) (hi : cs[i]? = some x) : w'.cell? ⟨w.heap.size, i, none⟩ = some x := by
  have e := World.cell?_alloc_new w cs t i
  rw [hi] at e
  exact (Below.cell h (p := ⟨w.heap.size, i, none⟩) (by simp)).trans e
def boundsOf (s : St) : Bool := decide (0 ≤ s.cap) && decide (s.cap ≤ 16777216) && decide (1 ≤ s.next) && decide (s.next ≤ 2147483647) && decide (s.files.length ≤ 256)
def prevId (l : List (Int × List Int × Int)) (k : Nat) : Int := if k = 0 then 0 else (l.getD (k - 1) (0, [], 0)).1
def okFile (l : List (Int × List Int × Int)) (next : Int) (k : Nat) : Bool :=
  decide (prevId l k < (l.getD k (0, [], 0)).1) && decide ((l.getD k (0, [], 0)).1 < next) && decide (0 ≤ (l.getD k (0, [], 0)).2.2) && decide ((l.getD k (0, [], 0)).2.2 ≤ (l.getD k (0, [], 0)).2.1.length)
def filesMayOf (s : St) : Bool := (List.range s.files.length).all (okFile s.files s.next) && decide (usedOf s.files ≤ s.cap)
theorem all_range_no {n : Nat} {p : Nat → Bool} (k : Nat) (h : k < n) (hn : p k = false) : (List.range n).all p = false := by
  rw [List.all_eq_false]
  exact ⟨k, List.mem_range.2 h, by rw [hn]; decide⟩
theorem all_range_yes {n : Nat} {p : Nat → Bool} (h : ∀ i, i < n → p i = true) : (List.range n).all p = true := by
  rw [List.all_eq_true]
  intro i hi
  exact h i (List.mem_range.1 hi)
theorem all_range_get {n : Nat} {p : Nat → Bool} (h : (List.range n).all p = true) (i : Nat) (hi : i < n) : p i = true := List.all_eq_true.1 h i (List.mem_range.2 hi)
set_option maxHeartbeats 1000000 in
theorem boundsMay_any (s : St) (v : Value) (w : World) (hv : StW w v s) :
    Calls Tryz.prog 109 #[v] w fun e w' => e = .returned (.bool (boundsOf s)) ∧ Below w.heap.size w w' := by
  obtain ⟨vf, vn, vs, rfl, hf, hn, hs, h1, h2⟩ := hv
  obtain ⟨a, cap, rfl, hcap, hmax⟩ := hf.len
  clear hf hn hs
  go_enter Tryz.func109, Tryz.ntmps109
  unfold boundsOf
  by_cases c1 : 0 ≤ s.cap
  · by_cases c2 : s.cap ≤ 16777216
    · by_cases c3 : 1 ≤ s.next
      · by_cases c4 : s.next ≤ 2147483647
        · by_cases c5 : s.files.length ≤ 256
          · have c5' : (s.files.length : Int) ≤ 256 := by omega
            go_wp2
            go_ret
            exact ⟨by simp [*] <;> omega, up_al (Below.refl _ _) _⟩
          · have c5' : ¬ (s.files.length : Int) ≤ 256 := by omega
            go_wp2
            go_ret
            exact ⟨by simp [*] <;> omega, up_al (Below.refl _ _) _⟩
        · go_wp2
          go_ret
          exact ⟨by simp [*] <;> omega, up_al (Below.refl _ _) _⟩
      · go_wp2
        go_ret
        exact ⟨by simp [*] <;> omega, up_al (Below.refl _ _) _⟩
    · go_wp2
      go_ret
      exact ⟨by simp [*] <;> omega, up_al (Below.refl _ _) _⟩
  · go_wp2
    go_ret
    exact ⟨by simp [*] <;> omega, up_al (Below.refl _ _) _⟩
set_option maxHeartbeats 1000000 in
theorem filesMay_any (s : St) (v : Value) (w : World) (hv : StW w v s) (hle : s.files.length ≤ 256) :
    Calls Tryz.prog 110 #[v] w fun e w' => e = .returned (.bool (filesMayOf s)) ∧ Below w.heap.size w w' := by
  obtain ⟨vf, vn, vs, rfl, hf, hn, hs, hic, hin⟩ := hv
  have HV : Hid (FilesW w vf s.files) := hf
  obtain ⟨a, cap, rfl, hcap, hmax⟩ := hf.len
  unfold maxLen at hmax
  clear hf hn hs
  have HNo : Hid (∀ k, k < s.files.length → okFile s.files s.next k = false → filesMayOf s = false) := by
    intro k hk h
    unfold filesMayOf
    rw [all_range_no k hk h]
    rfl
  have HYes : Hid ((∀ k, k < s.files.length → okFile s.files s.next k = true) → filesMayOf s = decide (usedOf s.files ≤ s.cap)) := by
    intro h
    unfold filesMayOf
    rw [all_range_yes h]
    rfl
  go_enter Tryz.func110, Tryz.ntmps110
  go_wp2
  go_loopw [3, 9] (fun last i wr => ∃ k : Nat, k ≤ s.files.length ∧ i = .int .i64 k ∧ last = .int .i64 (prevId s.files k) ∧ Hid (∀ j, j < k → okFile s.files s.next j = true) ∧ Hid (BoxW w (.cells #[.int .i64 s.cap, .slice a s.files.length cap, vn, vs, .int .i64 s.next] 35) wr)) (fun _ i _ => s.files.length - (intOf i).toNat)
  case atStart => exact ⟨0, Nat.zero_le _, rfl, rfl, (fun j hj => by omega), BoxW.start _ _⟩
  case round =>
    obtain ⟨k, hk, rfl, rfl, HK, bx⟩ := hrel
    have q0 := bx.out.cell 0 _ rfl
    have q1 := bx.out.cell 1 _ rfl
    have q4 := bx.out.cell 4 _ rfl
    have HF2 : Hid (FilesW wr (.slice a s.files.length cap) s.files) := HV.out.up bx.out.up
    by_cases hlt : k < s.files.length
    · have hlt' : (k : Int) < (s.files.length : Int) := by omega
      obtain ⟨b, off, cap', u, e, _, _, c0, c1, c2, ho, hdl, hi0, hi2⟩ := HF2.out.at k hlt
      simp at e
      obtain ⟨rfl, rfl⟩ := e
      have q4a : ∀ o, (wr.alloc o).cell? ⟨w.heap.size, 4, none⟩ = some (.int .i64 s.next) := fun o => (bx.out.step (up_al (Below.refl _ _) o)).cell 4 _ rfl
      have HN2 : Hid (okFile s.files s.next k = false → filesMayOf s = false) := HNo.out k hlt
      have HOk : Hid (okFile s.files s.next k = (decide (prevId s.files k < (s.files.getD k (0, [], 0)).1) && decide ((s.files.getD k (0, [], 0)).1 < s.next) && decide (0 ≤ (s.files.getD k (0, [], 0)).2.2) && decide ((s.files.getD k (0, [], 0)).2.2 ≤ (s.files.getD k (0, [], 0)).2.1.length))) := rfl
      have HP : Hid (prevId s.files (k + 1) = (s.files.getD k (0, [], 0)).1) := by simp [Hid, prevId]
      generalize s.files.getD k (0, [], 0) = y at *
      obtain ⟨yi, yd, ys⟩ := y
      simp only at c0 c1 c2 ho hdl hi0 hi2 HOk HP
      obtain ⟨au, capu, rfl, _⟩ := ho.slice
      clear ho
      generalize prevId s.files k = pv at *
      by_cases d1 : yi ≤ pv
      · have HR : Hid (filesMayOf s = false) := HN2.out (by rw [HOk.out]; simp; omega)
        go_wp2
        go_ret
        rw [HR.out]
        exact ⟨rfl, up_al bx.out.up _⟩
      · by_cases d2 : s.next ≤ yi
        · have HR : Hid (filesMayOf s = false) := HN2.out (by rw [HOk.out]; simp; omega)
          go_wp2
          go_ret
          rw [HR.out]
          exact ⟨rfl, up_al bx.out.up _⟩
        · by_cases d3 : ys < 0
          · have HR : Hid (filesMayOf s = false) := HN2.out (by rw [HOk.out]; simp; omega)
            go_wp2
            go_ret
            rw [HR.out]
            exact ⟨rfl, up_al bx.out.up _⟩
          · by_cases d4 : (yd.length : Int) < ys
            · have HR : Hid (filesMayOf s = false) := HN2.out (by rw [HOk.out]; simp; omega)
              go_wp2
              go_ret
              rw [HR.out]
              exact ⟨rfl, up_al bx.out.up _⟩
            · have HK2 : Hid (∀ j, j < k + 1 → okFile s.files s.next j = true) := by
                intro j hj
                rcases Nat.lt_or_ge j k with c | c
                · exact HK.out j c
                · obtain rfl : j = k := by omega
                  rw [HOk.out]
                  simp
                  omega
              go_wp2
              exact ⟨⟨k + 1, by omega, by go_num, by rw [HP.out], HK2, bx.out.step (up_al (Below.refl _ _) _)⟩, by simp [intOf]; omega⟩
    · have hlt' : ¬ (k : Int) < (s.files.length : Int) := by omega
      obtain rfl : k = s.files.length := by omega
      have HR : Hid (filesMayOf s = decide (usedOf s.files ≤ s.cap)) := HYes.out HK.out
      have p0 := cell_up q0
      have p1 := cell_up q1
      go_wp2_with fail
      refine wp_region_up (by kernel_rfl) (by kernel_rfl) ?_
      repeat (quiet_step ((go_at_call 151; refine calls_up (used_any s.files _ _ (HF2.out.up (UpW.up _)) hle))))
      refine wpQuiet_nil ?_
      intro _ hw'
      obtain ⟨p, hw''⟩ := hw'
      subst hw''
      go_wp2
      go_ret
      rw [HR.out]
      exact ⟨rfl, up_trans bx.out.up p.up⟩
end Go.Proofs.YtnchjlimkgbfpaaGreatDoor
