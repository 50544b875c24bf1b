
import Derived.Test.YtnchjlimkgbfpaaGreatDoorRChk
import Derived.Test.YtnchjlimkgbfpaaGreatDoorE19
import Derived.Test.YtnchjlimkgbfpaaGreatDoorE23
namespace Go.Proofs.YtnchjlimkgbfpaaGreatDoor
open Go.RowKit
set_option linter.unusedVariables false
set_option maxRecDepth 20000
set_option linter.unusedSimpArgs false
theorem drops_at (d : List Int) (k : Nat) (x : Int) (T : List Me) (h : d[k]? = some x) : dropsM (d.drop k) T = if (dropM x T).length = T.length then none else dropsM (d.drop (k + 1)) (dropM x T) := by
  rw [List.drop_eq_getElem_cons (List.getElem?_eq_some_iff.1 h).1, (List.getElem?_eq_some_iff.1 h).2, dropsM]
theorem puts_at (l : List Me) (k : Nat) (m : Me) (T : List Me) (h : l[k]? = some m) : putsM (l.drop k) T = putsM (l.drop (k + 1)) (putM m T) := by
  rw [List.drop_eq_getElem_cons (List.getElem?_eq_some_iff.1 h).1, (List.getElem?_eq_some_iff.1 h).2, putsM]
theorem putM_place (m : Me) : ∀ (T : List Me) (p : Nat), p ≤ T.length → (∀ j x, j < p → T[j]? = some x → befM x m = true) → (∀ x, T[p]? = some x → befM x m = false) → putM m T = T.take p ++ (m :: T.drop p)
  | [], p, hp, _, _ => by simp at hp; subst hp; rfl
  | x :: r, 0, _, _, h => by
    have := h x rfl
    rw [putM, if_neg (by rw [this]; decide)]
    rfl
  | x :: r, p + 1, hp, h1, h2 => by
    have hx := h1 0 x (by omega) rfl
    rw [putM, if_pos hx, putM_place m r p (by simpa using hp) (fun j y hj hy => h1 (j + 1) y (by omega) (by simpa using hy)) (fun y hy => h2 y (by simpa using hy))]
    rfl
theorem rws_from {sz : Nat} {w : World} {a : Option Addr} {n c : Nat} {css : List (List Value)} (h : Rws sz w (.slice a n c) css) (p : Nat) (hp : p ≤ css.length) : Rws sz w (.slice (if c = p then a else a.map (fun x => x.add (p * sz))) (n - p) (c - p)) (css.drop p) := by
  obtain ⟨h1, a', c', e, h2, h3, h4, h5⟩ := h
  simp only [Value.slice.injEq] at e
  obtain ⟨rfl, rfl, rfl⟩ := e
  refine ⟨fun cs hc => h1 cs (List.mem_of_mem_drop hc), _, _, by rw [List.length_drop], by rw [List.length_drop]; omega, by omega, ?_, ?_⟩
  · intro e
    split at e
    · rename_i q
      omega
    · cases a with
      | none => have := h4 rfl; omega
      | some x => cases e
  · intro hne
    have hcs : css ≠ [] := by intro e; rw [e] at hne; simp at hne
    have hlt : p < css.length := by
      rcases Nat.lt_or_ge p css.length with q | q
      · exact q
      · exact absurd (List.drop_eq_nil_of_le q) hne
    obtain ⟨b, off, e', hc⟩ := h5 hcs
    subst e'
    rw [if_neg (by omega)]
    refine ⟨b, off + p * sz, by simp [Addr.add], ?_⟩
    intro j cs hj i u hu
    rw [List.getElem?_drop] at hj
    have := hc (p + j) cs hj i u hu
    rw [Nat.add_mul] at this
    rw [Nat.add_assoc off]
    exact this
theorem app_dnone {ts : List Me} {s n : Int} {d : List Int} {add : List Me} {s' n' : Int} (h : errV ts s n = 0) (hd : dropsM d ts = none) : appM ts s n d add s' n' = ([], 71) := by
  unfold appM
  rw [if_pos (errV_zero.1 h), hd]
theorem app_dlow {ts T : List Me} {s n : Int} {d : List Int} {add : List Me} {s' n' : Int} (h : errV ts s n = 0) (hd : dropsM d ts = some T) (hr : s' < s ∨ n' < n) : appM ts s n d add s' n' = ([], 4) := by
  unfold appM
  rw [if_pos (errV_zero.1 h), hd]
  simp only
  rw [if_pos hr]
theorem app_dmany {ts T : List Me} {s n : Int} {d : List Int} {add : List Me} {s' n' : Int} (h : errV ts s n = 0) (hd : dropsM d ts = some T) (hr : ¬ (s' < s ∨ n' < n)) (ha : 256 < add.length) : appM ts s n d add s' n' = ([], 9) := by
  unfold appM
  rw [if_pos (errV_zero.1 h), hd]
  simp only
  rw [if_neg hr, if_pos ha]
theorem app_dlast {ts T : List Me} {s n : Int} {d : List Int} {add : List Me} {s' n' : Int} (h : errV ts s n = 0) (hd : dropsM d ts = some T) (hr : ¬ (s' < s ∨ n' < n)) (ha : ¬ 256 < add.length) : appM ts s n d add s' n' = if errV (putsM add T) s' n' = 0 then (putsM add T, 0) else ([], 9) := by
  unfold appM
  rw [if_pos (errV_zero.1 h), hd]
  simp only
  rw [if_neg hr, if_neg ha]
  by_cases q : errV (putsM add T) s' n' = 0
  · rw [if_pos q, if_pos (errV_zero.1 q)]
  · rw [if_neg q, if_neg (fun r => q (errV_zero.2 r))]
theorem dropM_skip (x : Int) (T : List Me) (k : Nat) (m : Me) (h : T[k]? = some m) (he : m.id = x) : dropM x (T.take (k + 1)) = dropM x (T.take k) := by
  unfold dropM
  rw [List.take_add_one, h, List.filter_append]
  simp [he]
theorem dropM_keep (x : Int) (T : List Me) (k : Nat) (m : Me) (h : T[k]? = some m) (he : m.id ≠ x) : dropM x (T.take (k + 1)) = dropM x (T.take k) ++ [m] := by
  unfold dropM
  rw [List.take_add_one, h, List.filter_append]
  simp [he]
theorem rows_shapeR {w : World} {base : Nat} {e : TypeId} {sz : Nat} {v : Value} {css : List (List Value)} (h : OwnR w base e sz v css) : ∃ a n c, v = .slice a n c ∧ Hid (OwnR w base e sz (.slice a n c) css) := by
  obtain ⟨a, c, e', _, _⟩ := (Rws.own h).len
  exact ⟨a, _, c, e', by rw [← e']; exact h⟩
def AppR (w : World) (r : List Me × Int) (s n : Int) (e : Ending) (w' : World) : Prop :=
  ∃ a l c, e = .returned (.tuple #[.agg #[.slice a l c, .int .i64 (if r.2 = 0 then s else 0), .int .i64 (if r.2 = 0 then n else 0)], .int .i64 r.2]) ∧ OwnR w' w.heap.size 139 5 (.slice a l c) (r.1.map meRow) ∧ Below w.heap.size w w'
set_option maxHeartbeats 16000000 in
set_option maxRecDepth 100000 in
theorem refApply_any (ts : List Me) (seq next : Int) (drop : List Int) (add : List Me) (seq2 next2 : Int) (va da aa : Option Addr) (vn vc dn dc an ac : Nat) (w : World)
    (hv : MetsR w (.slice va vn vc) ts) (hd : IntsR w (.slice da dn dc) drop) (ha : MetsR w (.slice aa an ac) add) :
    Calls Tryz.prog 28 #[.agg #[.slice va vn vc, .int .i64 seq, .int .i64 next], .agg #[.slice da dn dc, .slice aa an ac, .int .i64 seq2, .int .i64 next2]] w (AppR w (appM ts seq next drop add seq2 next2) seq2 next2) := by
  obtain ⟨Post, hP⟩ : ∃ Post : Ending → World → Prop, Post = AppR w (appM ts seq next drop add seq2 next2) seq2 next2 := ⟨_, rfl⟩
  have HP : Hid (∀ e w', AppR w (appM ts seq next drop add seq2 next2) seq2 next2 e w' → Post e w') := fun e w' h => by rw [hP]; exact h
  rw [← hP]
  clear hP
  obtain ⟨da', dc', e', hd1, hd2⟩ := hd.len
  simp only [Value.slice.injEq] at e'
  obtain ⟨rfl, rfl, rfl⟩ := e'
  obtain ⟨aa', ac', e', ha1, ha2⟩ := ha.len
  simp only [Value.slice.injEq] at e'
  obtain ⟨rfl, rfl, rfl⟩ := e'
  have hd63 : (drop.length : Int) ≤ 9223372036854775807 := by unfold maxLen at hd2; omega
  have ha63 : (add.length : Int) ≤ 9223372036854775807 := by unfold maxLen at ha2; omega
  have HV : Hid (MetsR w (.slice va vn vc) ts) := hv
  have HD : Hid (IntsR w (.slice da drop.length dc) drop) := hd
  have HA : Hid (MetsR w (.slice aa add.length ac) add) := ha
  clear hv hd ha hd1 hd2 ha1 ha2
  obtain ⟨w0, hw0⟩ : ∃ w0, w0 = ((w.alloc (.cells #[.slice va vn vc, .int .i64 seq, .int .i64 next] 28)).alloc (.cells #[.slice da drop.length dc, .slice aa add.length ac, .int .i64 seq2, .int .i64 next2] 31)).alloc (.cells #[.slice none 0 0, .int .i64 0, .int .i64 0] 28) := ⟨_, rfl⟩
  have HW0 : Hid (((w.alloc (.cells #[.slice va vn vc, .int .i64 seq, .int .i64 next] 28)).alloc (.cells #[.slice da drop.length dc, .slice aa add.length ac, .int .i64 seq2, .int .i64 next2] 31)).alloc (.cells #[.slice none 0 0, .int .i64 0, .int .i64 0] 28) = w0) := hw0.symm
  have U0 : Hid (Below w.heap.size w w0) := by rw [hw0]; exact up_al (up_al (up_alloc _ _) _) _
  have B0 : Hid (w0.heap[w.heap.size]? = some (.cells #[.slice va vn vc, .int .i64 seq, .int .i64 next] 28)) := by rw [hw0]; exact blk_up (blk_up (blk_new _ _) (up_alloc _ _)) (up_alloc _ _)
  have B1 : Hid (w0.heap[w.heap.size + 1]? = some (.cells #[.slice da drop.length dc, .slice aa add.length ac, .int .i64 seq2, .int .i64 next2] 31)) := by
    rw [hw0]
    have := blk_new (w.alloc (.cells #[.slice va vn vc, .int .i64 seq, .int .i64 next] 28)) (.cells #[.slice da drop.length dc, .slice aa add.length ac, .int .i64 seq2, .int .i64 next2] 31)
    rw [show (w.alloc (.cells #[.slice va vn vc, .int .i64 seq, .int .i64 next] 28)).heap.size = w.heap.size + 1 by simp] at this
    exact blk_up this (up_alloc _ _)
  have B2 : Hid (w0.heap[w.heap.size + 1 + 1]? = some (.cells #[.slice none 0 0, .int .i64 0, .int .i64 0] 28)) := by
    rw [hw0]
    have := blk_new ((w.alloc (.cells #[.slice va vn vc, .int .i64 seq, .int .i64 next] 28)).alloc (.cells #[.slice da drop.length dc, .slice aa add.length ac, .int .i64 seq2, .int .i64 next2] 31)) (.cells #[.slice none 0 0, .int .i64 0, .int .i64 0] 28)
    rw [show ((w.alloc (.cells #[.slice va vn vc, .int .i64 seq, .int .i64 next] 28)).alloc (.cells #[.slice da drop.length dc, .slice aa add.length ac, .int .i64 seq2, .int .i64 next2] 31)).heap.size = w.heap.size + 1 + 1 by simp] at this
    exact this
  have SZ : Hid (w0.heap.size = w.heap.size + 1 + 1 + 1) := by rw [hw0]; unfold Hid; simp
  clear hw0
  have HCK : Hid (Calls Tryz.prog 26 #[.agg #[.slice va vn vc, .int .i64 seq, .int .i64 next]] w0 fun e w' => e = .returned (.int .i64 (errV ts seq next)) ∧ Hid (Below w0.heap.size w0 w')) := refCheck_anyE ts seq next va vn vc w0 (HV.out.up U0.out)
  have x0 := blk_cell B0.out 0 _ rfl
  have x1 := blk_cell B0.out 1 _ rfl
  have x2 := blk_cell B0.out 2 _ rfl
  go_enter Tryz.func28, Tryz.ntmps28
  go_upto_region 1 with fail
  rw [HW0.out]
  clear HW0
  generalize hN1 : w.heap.size + 1 + 1 = N2 at *
  generalize hN0 : w.heap.size + 1 = N1 at *
  have HN : Hid (w.heap.size < w0.heap.size ∧ N1 < w0.heap.size ∧ N2 < w0.heap.size ∧ w.heap.size ≤ N2 ∧ N1 ≠ N2 ∧ w.heap.size ≠ N2) := by have := SZ.out; unfold Hid; omega
  clear SZ hN0 hN1
  rcases errV_cases ts seq next with hc | hc
  case inr =>
    rw [hc] at HCK
    have HR : Hid (appM ts seq next drop add seq2 next2 = ([], 9)) := app_bad hc
    clear hc
    go_wp2_with fail
    refine HCK.out.mono ?_
    rintro e w1 ⟨rfl, u1⟩
    have B2' := hid (blk_up B2.out u1.out)
    have U1 := hid (up_trans U0.out u1.out)
    clear u1
    have r0 := blk_cell B2'.out 0 _ rfl
    have r1 := blk_cell B2'.out 1 _ rfl
    have r2 := blk_cell B2'.out 2 _ rfl
    have f0 := blk_frozen B2'.out 0
    have f1 := blk_frozen B2'.out 1
    have f2 := blk_frozen B2'.out 2
    go_wp2_with fail
    refine bodyPost_ret (results_ver rfl (.inr rfl) _ _ rfl (set3_blk B2'.out _ _ _)) rfl ?_
    refine HP.out _ _ ?_
    rw [HR.out]
    exact ⟨none, 0, 0, rfl, OwnR.nil _ _ _ _, U1.out.trans (below_grown (set3_grown w1 N2 _ _ _) U1.out.size (fun k hk => by injection hk with hk; have := HN.out; omega))⟩
  have HC0 : Hid (errV ts seq next = 0) := hc
  rw [hc] at HCK
  clear hc
  go_wp2_with fail
  refine HCK.out.mono ?_
  rintro e w1 ⟨rfl, u1⟩
  have U1 := hid (up_trans U0.out u1.out)
  replace B0 := hid (blk_up B0.out u1.out)
  replace B1 := hid (blk_up B1.out u1.out)
  replace B2 := hid (blk_up B2.out u1.out)
  replace HN : Hid (w.heap.size < w1.heap.size ∧ N1 < w1.heap.size ∧ N2 < w1.heap.size ∧ w.heap.size ≤ N2 ∧ N1 ≠ N2 ∧ w.heap.size ≠ N2) := by have := HN.out; have := u1.out.size; unfold Hid; omega
  clear u1 HCK U0 x0 x1 x2
  clear w0
  have HME : Hid (∀ (l : List Me) (v : Value) (W : World), MetsR W v l → l.length ≤ 4000000000000 → Calls Tryz.prog 68 #[v] W fun e w' => ∃ a n c, e = .returned (.slice a n c) ∧ Hid (OwnR w' W.heap.size 139 5 (.slice a n c) (l.map meRow)) ∧ Hid (Below W.heap.size W w')) := fun l v W h1 h2 => refMetas_own l v W h1 h2
  have HL0 : Hid (ts.length ≤ 256) := chk_len HC0.out
  have x0 := blk_cell B0.out 0 _ rfl
  go_wp2_with fail
  refine (HME.out ts _ w1 (HV.out.up U1.out) (Nat.le_trans HL0.out (by decide))).mono ?_
  rintro e w2 ⟨a2, n2, c2, rfl, O2, u2⟩
  have O2' : Hid (OwnR w2 w1.heap.size 139 5 (.slice a2 n2 c2) (ts.map meRow)) := O2.out
  have u2' : Hid (Below w1.heap.size w1 w2) := u2.out
  have y0 := blk_cell (blk_up B1.out u2.out) 0 _ rfl
  clear O2 u2 x0
  have HI0 : Hid (dropsM drop ts = dropsM (drop.drop 0) ts) := rfl
  go_wp2_with fail
  go_loopw [6, 7] (fun s6 s7 wr => ∃ (i : Nat) (a : Option Addr) (n c : Nat) (T : List Me), i ≤ drop.length ∧ s7 = .int .i64 (i : Int) ∧ s6 = .slice a n c ∧ Hid (dropsM drop ts = dropsM (drop.drop i) T) ∧ Hid (T.length ≤ 256) ∧ Hid (OwnR wr w1.heap.size 139 5 (.slice a n c) (T.map meRow)) ∧ Hid (Below w1.heap.size w1 wr)) (fun _ s7 _ => drop.length - (intOf s7).toNat)
  case atStart => exact ⟨0, a2, n2, c2, ts, Nat.zero_le _, rfl, rfl, HI0, HL0, O2', u2'⟩
  case round =>
    clear O2' u2' y0 HI0
    obtain ⟨i, a, n, c, T, hi, rfl, rfl, HI, HL, HO, HU⟩ := hrel
    have y0 := blk_cell (blk_up B1.out HU.out) 0 _ rfl
    by_cases hid1 : i < drop.length
    · have hid2 : (i : Int) < (drop.length : Int) := by omega
      obtain ⟨aT, cT, eT, hT1, hT2⟩ := MetsR.len (l := T) (Rws.own HO.out)
      simp only [Value.slice.injEq] at eT
      obtain ⟨rfl, rfl, rfl⟩ := eT
      have hT63 : (T.length : Int) ≤ 256 := by have := HL.out; omega
      clear hT1 hT2
      obtain ⟨b, off, cap, xi, e, hxi, xc⟩ := ((HD.out.up U1.out).up HU.out).elt i hid1
      simp only [Value.slice.injEq] at e
      obtain ⟨rfl, _, rfl⟩ := e
      have HXI : Hid (drop[i]? = some xi) := hxi
      have HXR : Hid (IntsR wr (.slice (some ⟨b, off, none⟩) drop.length dc) drop) := (HD.out.up U1.out).up HU.out
      have HB1r := hid (blk_up B1.out HU.out)
      clear hxi xc
      generalize wr = wo at *
      go_wp2_with fail
      clear y0
      go_loopw [8, 9] (fun s8 s9 wx => ∃ (k : Nat) (al : Option Addr) (cl : Nat), k ≤ T.length ∧ s9 = .int .i64 (k : Int) ∧ s8 = .slice al (dropM xi (T.take k)).length cl ∧ Hid (OwnR wx wo.heap.size 139 5 (.slice al (dropM xi (T.take k)).length cl) ((dropM xi (T.take k)).map meRow)) ∧ Hid (Below wo.heap.size wo wx)) (fun _ s9 _ => T.length - (intOf s9).toNat)
      case atStart => exact ⟨0, none, 0, Nat.zero_le _, rfl, rfl, OwnR.nil _ _ _ _, Below.refl _ _⟩
      case round =>
        obtain ⟨k, al, cl, hk, rfl, rfl, HO2, HU2⟩ := hrel
        by_cases hkl : k < T.length
        · have hkl' : (k : Int) < (T.length : Int) := by omega
          obtain ⟨bT, offT, capT, m, eT, hm, m0, m1, m2, m3, m4⟩ := MetsR.at (l := T) ((Rws.own HO.out).up HU2.out) k hkl
          simp only [Value.slice.injEq] at eT
          obtain ⟨rfl, _, rfl⟩ := eT
          obtain ⟨b', off', cap', xj, e', hxj, xc⟩ := (HXR.out.up HU2.out).elt i hid1
          simp only [Value.slice.injEq, Option.some.injEq, Addr.mk.injEq] at e'
          obtain ⟨⟨rfl, rfl, _⟩, _, rfl⟩ := e'
          obtain rfl : xi = xj := by have h1 := HXI.out; rw [hxj] at h1; injection h1 with h1; exact h1.symm
          have y0 := blk_cell (blk_up HB1r.out HU2.out) 0 _ rfl
          clear hxj
          by_cases hq : m.id = xi
          · have hq' : (m.id == xi) = true := by simp [hq]
            have HE := hid (dropM_skip xi T k m hm hq)
            have HO3 : Hid (OwnR wr wo.heap.size 139 5 (.slice al (dropM xi (T.take (k + 1))).length cl) ((dropM xi (T.take (k + 1))).map meRow)) := by unfold Hid; rw [HE.out]; exact HO2.out
            obtain ⟨LL, hLL⟩ : ∃ LL, (dropM xi (T.take k)).length = LL := ⟨_, rfl⟩
            have HLL : Hid ((dropM xi (T.take (k + 1))).length = LL) := by unfold Hid; rw [HE.out]; exact hLL
            rw [hLL]
            clear hm hq HE hLL
            go_wp2_with fail
            go_quiet (fail)
            go_wp2_with fail
            exact ⟨⟨k + 1, al, cl, by omega, by go_num, by rw [HLL.out], HO3.out.up (up_drewN _ _), up_trans HU2.out (up_drewN _ _)⟩, by simp [intOf]; omega⟩
          · have hq' : (m.id == xi) = false := by simp [hq]
            have HE := hid (dropM_keep xi T k m hm hq)
            have HT : Hid ((dropM xi (T.take k)).map meRow ++ [[.int .i64 m.id, .int .i64 m.lvl, .int .i64 m.cnt, .string m.low, .string m.high]] = (dropM xi (T.take (k + 1))).map meRow) := by
              unfold Hid; rw [HE.out, List.map_append]; rfl
            have HB2 : Hid ((((((dropM xi (T.take k)).map meRow).length + 1 + (((dropM xi (T.take k)).map meRow).length + 1) / 4 + 192) * 56 ≤ 281474976710656)) ∧ ((dropM xi (T.take k)).map meRow).length + 1 ≤ maxLen) := by
              have h1 : (dropM xi (T.take k)).length ≤ (T.take k).length := List.length_filter_le _ _
              rw [List.length_take] at h1
              have := HL.out
              unfold Hid maxLen
              rw [List.length_map]
              omega
            have HO1 : Hid (∀ u ∈ ([.int .i64 m.id, .int .i64 m.lvl, .int .i64 m.cnt, .string m.low, .string m.high] : List Value), u.oneCell' = true) := meRow_one m
            have S0 : Hid (wo.heap.size ≤ wr.heap.size) := HU2.out.size
            have HLN : Hid ((dropM xi (T.take (k + 1))).length = (dropM xi (T.take k)).length + 1) := by unfold Hid; rw [HE.out]; simp
            clear hm hq HE
            obtain ⟨T2, hT2⟩ : ∃ T2, (dropM xi (T.take (k + 1))).map meRow = T2 := ⟨_, rfl⟩
            rw [hT2] at HT
            have HT2 : Hid ((dropM xi (T.take (k + 1))).map meRow = T2) := hT2
            have HT2L : Hid (T2.length = (dropM xi (T.take (k + 1))).length) := by unfold Hid; rw [← hT2, List.length_map]
            clear hT2
            generalize hLL : (dropM xi (T.take k)).length = LL at *
            clear hLL
            generalize (dropM xi (T.take k)).map meRow = T1 at *
            go_wp2_with fail
            go_quiet (fail)
            have Q0 : Hid (OwnR (wr.drewN nq) wo.heap.size 139 5 (.slice al LL cl) T1) := HO2.out.up (up_drewN _ _)
            have Q1 : Hid (wo.heap.size ≤ (wr.drewN nq).heap.size) := S0.out
            go_wp2_with (at_builtin; refine wpList_append_row (wr.drewN nq) rfl _ _ 26 139 _ 5 56 rfl Tryz.underlying26 Tryz.info139 rfl (by decide) wo.heap.size (.slice al LL cl) T1 rfl Q0.out [.int .i64 m.id, .int .i64 m.lvl, .int .i64 m.cnt, .string m.low, .string m.high] _ _ rfl rfl rfl rfl HO1.out HB2.out.1 HB2.out.2 Q1.out ?_)
            intro v2 w5 Ov Bv
            rw [HT.out] at Ov
            have U5 : Hid (Below wo.heap.size wo w5) := (up_trans HU2.out (up_drewN _ _)).trans Bv
            obtain ⟨a3, c3, e3, _, _⟩ := (Rws.own Ov).len
            rw [HT2L.out] at e3
            subst e3
            have O3 : Hid (OwnR w5 wo.heap.size 139 5 (.slice a3 (dropM xi (T.take (k + 1))).length c3) T2) := Ov
            clear Ov Bv HO2 HT HB2 HT2L
            generalize hLL2 : (dropM xi (T.take (k + 1))).length = L2 at *
            have HL2 : Hid ((dropM xi (T.take (k + 1))).length = L2) := hLL2
            clear hLL2
            go_wp2_with fail
            exact ⟨⟨k + 1, a3, c3, by omega, by go_num, by rw [HL2.out], by rw [HT2.out, HL2.out]; exact O3, U5⟩, by simp [intOf]; omega⟩
        · have hkl' : ¬ (k : Int) < (T.length : Int) := by omega
          obtain rfl : k = T.length := by omega
          rw [List.take_length] at HO2 ⊢
          have HAT := hid (drops_at drop i xi T HXI.out)
          have HLe : Hid ((dropM xi T).length ≤ T.length) := List.length_filter_le _ _
          by_cases hz : (dropM xi T).length = T.length
          · have hz' : (((dropM xi T).length : Int) == (T.length : Int)) = true := by simp [hz]
            have HR : Hid (appM ts seq next drop add seq2 next2 = ([], 71)) := by
              refine app_dnone HC0.out ?_
              rw [HI.out, HAT.out, if_pos hz]
            have UR : Hid (Below w.heap.size w wr) := up_trans U1.out (up_trans HU.out HU2.out)
            have B2' := hid (blk_up (blk_up B2.out HU.out) HU2.out)
            generalize (dropM xi T).length = LL at *
            have r0 := blk_cell B2'.out 0 _ rfl
            have r1 := blk_cell B2'.out 1 _ rfl
            have r2 := blk_cell B2'.out 2 _ rfl
            have f0 := blk_frozen B2'.out 0
            have f1 := blk_frozen B2'.out 1
            have f2 := blk_frozen B2'.out 2
            go_wp2_with fail
            refine bodyPost_ret (results_ver rfl (.inr rfl) _ _ rfl (set3_blk B2'.out _ _ _)) rfl ?_
            refine HP.out _ _ ?_
            rw [HR.out]
            exact ⟨none, 0, 0, rfl, OwnR.nil _ _ _ _, UR.out.trans (below_grown (set3_grown wr N2 _ _ _) UR.out.size (fun k hk => by injection hk with hk; have := HN.out; omega))⟩
          · have hz' : (((dropM xi T).length : Int) == (T.length : Int)) = false := by
              rw [beq_eq_false_iff_ne]; intro q; exact hz (by omega)
            have HI2 : Hid (dropsM drop ts = dropsM (drop.drop (i + 1)) (dropM xi T)) := by unfold Hid; rw [HI.out, HAT.out, if_neg hz]
            have HL2 : Hid ((dropM xi T).length ≤ 256) := by have := HL.out; have := HLe.out; unfold Hid; omega
            have HOm : Hid (OwnR wr w1.heap.size 139 5 (.slice al (dropM xi T).length cl) ((dropM xi T).map meRow)) := HO2.out.mono HU.out.size
            generalize hLL : (dropM xi T).length = LL at *
            have HLLe : Hid ((dropM xi T).length = LL) := hLL
            clear hLL
            go_wp2_with fail
            exact ⟨⟨i + 1, al, LL, cl, dropM xi T, by omega, by go_num, rfl, HI2, by rw [HLLe.out]; exact HL2, HOm, up_trans HU.out HU2.out⟩, by simp [intOf]; omega⟩
    · have hid2 : ¬ (i : Int) < (drop.length : Int) := by omega
      obtain rfl : i = drop.length := by omega
      have HDS : Hid (dropsM drop ts = some T) := by unfold Hid; rw [HI.out, List.drop_length]; rfl
      have U2 : Hid (Below w.heap.size w wr) := up_trans U1.out HU.out
      have B0r := hid (blk_up B0.out HU.out)
      have B1r := hid (blk_up B1.out HU.out)
      have B2' := hid (blk_up B2.out HU.out)
      have x1 := blk_cell B0r.out 1 _ rfl
      have x2 := blk_cell B0r.out 2 _ rfl
      have y1 := blk_cell B1r.out 1 _ rfl
      have y2 := blk_cell B1r.out 2 _ rfl
      have y3 := blk_cell B1r.out 3 _ rfl
      by_cases hr1 : seq2 < seq
      · have HR : Hid (appM ts seq next drop add seq2 next2 = ([], 4)) := app_dlow HC0.out HDS.out (.inl hr1)
        have r0 := blk_cell B2'.out 0 _ rfl
        have r1 := blk_cell B2'.out 1 _ rfl
        have r2 := blk_cell B2'.out 2 _ rfl
        have f0 := blk_frozen B2'.out 0
        have f1 := blk_frozen B2'.out 1
        have f2 := blk_frozen B2'.out 2
        go_wp2_with fail
        refine bodyPost_ret (results_ver rfl (.inr rfl) _ _ rfl (set3_blk B2'.out _ _ _)) rfl ?_
        refine HP.out _ _ ?_
        rw [HR.out]
        exact ⟨none, 0, 0, rfl, OwnR.nil _ _ _ _, U2.out.trans (below_grown (set3_grown wr N2 _ _ _) U2.out.size (fun k hk => by injection hk with hk; have := HN.out; omega))⟩
      by_cases hr2 : next2 < next
      · have HR : Hid (appM ts seq next drop add seq2 next2 = ([], 4)) := app_dlow HC0.out HDS.out (.inr hr2)
        have r0 := blk_cell B2'.out 0 _ rfl
        have r1 := blk_cell B2'.out 1 _ rfl
        have r2 := blk_cell B2'.out 2 _ rfl
        have f0 := blk_frozen B2'.out 0
        have f1 := blk_frozen B2'.out 1
        have f2 := blk_frozen B2'.out 2
        go_wp2_with fail
        refine bodyPost_ret (results_ver rfl (.inr rfl) _ _ rfl (set3_blk B2'.out _ _ _)) rfl ?_
        refine HP.out _ _ ?_
        rw [HR.out]
        exact ⟨none, 0, 0, rfl, OwnR.nil _ _ _ _, U2.out.trans (below_grown (set3_grown wr N2 _ _ _) U2.out.size (fun k hk => by injection hk with hk; have := HN.out; omega))⟩
      have HRG : Hid (¬ (seq2 < seq ∨ next2 < next)) := by unfold Hid; omega
      by_cases hal : 256 < add.length
      · have hal' : (256 : Int) < (add.length : Int) := by omega
        have HR : Hid (appM ts seq next drop add seq2 next2 = ([], 9)) := app_dmany HC0.out HDS.out HRG.out hal
        have r0 := blk_cell B2'.out 0 _ rfl
        have r1 := blk_cell B2'.out 1 _ rfl
        have r2 := blk_cell B2'.out 2 _ rfl
        have f0 := blk_frozen B2'.out 0
        have f1 := blk_frozen B2'.out 1
        have f2 := blk_frozen B2'.out 2
        go_wp2_with fail
        refine bodyPost_ret (results_ver rfl (.inr rfl) _ _ rfl (set3_blk B2'.out _ _ _)) rfl ?_
        refine HP.out _ _ ?_
        rw [HR.out]
        exact ⟨none, 0, 0, rfl, OwnR.nil _ _ _ _, U2.out.trans (below_grown (set3_grown wr N2 _ _ _) U2.out.size (fun k hk => by injection hk with hk; have := HN.out; omega))⟩
      have hal' : ¬ (256 : Int) < (add.length : Int) := by omega
      have HLA := hid (app_dlast (add := add) (s' := seq2) (n' := next2) HC0.out HDS.out HRG.out hal)
      have HI2 : Hid (putsM add T = putsM (add.drop 0) T) := rfl
      have HL2 : Hid (T.length ≤ 256 + 0) := HL.out
      go_wp2_with fail
      clear y0 x1 x2 y1 y2 y3
      generalize wr = wo at *
      go_loopw [6, 10] (fun s6 s10 wx => ∃ (j : Nat) (a : Option Addr) (n c : Nat) (T2 : List Me), j ≤ add.length ∧ s10 = .int .i64 (j : Int) ∧ s6 = .slice a n c ∧ Hid (putsM add T = putsM (add.drop j) T2) ∧ Hid (T2.length ≤ 256 + j) ∧ Hid (OwnR wx w1.heap.size 139 5 (.slice a n c) (T2.map meRow)) ∧ Hid (Below w1.heap.size w1 wx)) (fun _ s10 _ => add.length - (intOf s10).toNat)
      case atStart => exact ⟨0, a, n, c, T, Nat.zero_le _, rfl, rfl, HI2, HL2, HO, HU⟩
      case round =>
        obtain ⟨j, a, n, c, T2, hj, rfl, rfl, HIj, HLj, HOj, HUj⟩ := hrel
        have B1j := hid (blk_up B1.out HUj.out)
        have y1 := blk_cell B1j.out 1 _ rfl
        by_cases hjl : j < add.length
        · have hjl' : (j : Int) < (add.length : Int) := by omega
          have HAj : Hid (MetsR wr (.slice aa add.length ac) add) := (HA.out.up U1.out).up HUj.out
          obtain ⟨b, off, cap, m, e, hm, m0, m1, m2, m3, m4⟩ := HAj.out.at j hjl
          simp only [Value.slice.injEq] at e
          obtain ⟨rfl, _, rfl⟩ := e
          have HM : Hid (add[j]? = some m) := hm
          obtain ⟨aT, cT, eT, hT1, hT2⟩ := MetsR.len (l := T2) (Rws.own HOj.out)
          simp only [Value.slice.injEq] at eT
          obtain ⟨rfl, rfl, rfl⟩ := eT
          have hT63 : (T2.length : Int) ≤ 512 := by have := HLj.out; omega
          have HTC : Hid (T2.length ≤ c ∧ c ≤ maxLen) := ⟨hT1, hT2⟩
          clear hm hT1 hT2 m0 m1 m2 m3 m4
          generalize wr = wq at *
          go_wp2_with fail
          clear y1
          go_loopw [11] (fun s11 wx => ∃ p : Nat, p ≤ T2.length ∧ s11 = .int .i64 (p : Int) ∧ Hid (∀ q x, q < p → T2[q]? = some x → befM x m = true) ∧ Hid (Below wq.heap.size wq wx)) (fun s11 _ => T2.length - (intOf s11).toNat)
          case atStart => exact ⟨0, Nat.zero_le _, rfl, fun q x hq => by omega, Below.refl _ _⟩
          case round =>
            obtain ⟨p, hp, rfl, HPB, HUp⟩ := hrel
            have B1p := hid (blk_up B1j.out HUp.out)
            have y1 := blk_cell B1p.out 1 _ rfl
            obtain ⟨b', off', cap', m', e', hm', m0, m1, m2, m3, m4⟩ := (HAj.out.up HUp.out).at j hjl
            simp only [Value.slice.injEq, Option.some.injEq, Addr.mk.injEq] at e'
            obtain ⟨⟨rfl, rfl, _⟩, _, rfl⟩ := e'
            obtain rfl : m = m' := by have h1 := HM.out; rw [hm'] at h1; injection h1 with h1; exact h1.symm
            clear hm'
            by_cases hpl : p < T2.length
            · have hpl' : (p : Int) < (T2.length : Int) := by omega
              obtain ⟨bT, offT, capT, x, eT, hx, x0, x1, x2, x3, x4⟩ := MetsR.at (l := T2) ((Rws.own HOj.out).up HUp.out) p hpl
              simp only [Value.slice.injEq] at eT
              obtain ⟨rfl, _, rfl⟩ := eT
              have HX : Hid (T2[p]? = some x) := hx
              clear hx
              have HQ : Hid (∀ W : World, Calls Tryz.prog 66 #[.agg #[.int .i64 x.id, .int .i64 x.lvl, .int .i64 x.cnt, .string x.low, .string x.high], .agg #[.int .i64 m.id, .int .i64 m.lvl, .int .i64 m.cnt, .string m.low, .string m.high]] W fun e w' => e = .returned (.bool (befM x m)) ∧ Below W.heap.size W w') := fun W => refBefP x m _ rfl W
              replace x0 := cell_up x0
              replace x1 := cell_up x1
              replace x2 := cell_up x2
              replace x3 := cell_up x3
              replace x4 := cell_up x4
              have z0 := cell_up m0
              have z1 := cell_up m1
              have z2 := cell_up m2
              have z3 := cell_up m3
              have z4 := cell_up m4
              have z5 := cell_up y1
              cases hbf : befM x m
              · have HPM : Hid (putM m T2 = T2.take p ++ (m :: T2.drop p)) := putM_place m T2 p hp HPB.out (fun z hz => by rw [HX.out] at hz; injection hz with hz; rw [← hz]; exact hbf)
                rw [hbf] at HQ
                clear hbf
                go_wp2_with fail
                refine wp_region_up (by kernel_rfl) (by kernel_rfl) ?_
                repeat (go_big_quiet_step ((go_at_call 66; refine calls_up (HQ.out _))))
                refine wpQuiet_nil ?_
                intro _ hw'
                obtain ⟨pp, hw''⟩ := hw'
                subst hw''
                clear x0 x1 x2 x3 x4 z0 z1 z2 z3 z4 z5 m0 m1 m2 m3 m4 y1
                have HUp2 := hid (up_trans HUp.out pp.up)
                clear HUp B1p
                generalize pp.val = wp at *
                clear pp wr
                have hpc : ((p : Nat) : Int) ≤ (c : Int) := by have := HTC.out; omega
                have hcp : ¬ c = p := by have := HTC.out; omega
                have HMT := hid (Rws.first ((Rws.own HOj.out).up HUp2.out) p (by rw [List.length_map]; exact hp))
                rw [← List.map_take] at HMT
                have hp4 : Hid ((T2.take p).length ≤ 4000000000000) := by unfold Hid; rw [List.length_take]; have := HLj.out; omega
                have HCM := hid (HME.out (T2.take p) _ wp HMT.out hp4.out)
                have HRD : Hid (∀ W, Below wp.heap.size wp W → Rws 5 W (.slice (some ⟨bT, offT + p * 5, none⟩) (T2.length - p) (c - p)) ((T2.map meRow).drop p)) := by
                  intro W h
                  have := rws_from (((Rws.own HOj.out).up HUp2.out).up h) p (by rw [List.length_map]; exact hp)
                  rw [if_neg hcp, show Option.map (fun x : Addr => x.add (p * 5)) (some ⟨bT, offT, none⟩) = some ⟨bT, offT + p * 5, none⟩ by simp [Addr.add]] at this
                  exact this
                have HLN : Hid ((T2.take p).length = p) := by unfold Hid; rw [List.length_take]; omega
                have HFIN : Hid (((T2.take p).map meRow ++ [meRow m]) ++ (T2.map meRow).drop p = (putM m T2).map meRow) := by
                  unfold Hid
                  rw [HPM.out]
                  simp
                have HMDL : Hid (((T2.map meRow).drop p).length ≤ 512) := by
                  have := HLj.out
                  unfold Hid
                  rw [List.length_drop, List.length_map]
                  omega
                have HM0L : Hid (((T2.take p).map meRow).length ≤ 512) := by
                  have := HLj.out
                  have := HLN.out
                  unfold Hid
                  rw [List.length_map]
                  omega
                have HON : Hid (∀ cs ∈ (T2.map meRow).drop p, ∀ u ∈ cs, u.oneCell' = true) := by
                  intro cs hcs u hu
                  obtain ⟨s, _, rfl⟩ := List.mem_map.1 (List.mem_of_mem_drop hcs)
                  exact meRow_one s u hu
                generalize (T2.map meRow).drop p = MD at *
                generalize (T2.take p).map meRow = M0 at *
                have HB5 : Hid ((((M0.length + 1 + (M0.length + 1) / 4 + 192) * 56 ≤ 281474976710656)) ∧ M0.length + 1 ≤ maxLen) := by
                  have := HM0L.out
                  unfold Hid maxLen
                  omega
                have HBD : Hid (((((M0 ++ [meRow m]).length + MD.length) + ((M0 ++ [meRow m]).length + MD.length) / 4 + 192) * 56 ≤ 281474976710656) ∧ (M0 ++ [meRow m]).length + MD.length ≤ maxLen) := by
                  have := HM0L.out
                  have := HMDL.out
                  unfold Hid maxLen
                  rw [List.length_append]
                  simp only [List.length_cons, List.length_nil]
                  omega
                have HO1 : Hid (∀ u ∈ ([.int .i64 m.id, .int .i64 m.lvl, .int .i64 m.cnt, .string m.low, .string m.high] : List Value), u.oneCell' = true) := meRow_one m
                unfold meRow at HBD HFIN
                obtain ⟨M6, hM6⟩ : ∃ M6, M0 ++ [[Value.int IntKind.i64 m.id, Value.int IntKind.i64 m.lvl, Value.int IntKind.i64 m.cnt, Value.string m.low, Value.string m.high]] = M6 := ⟨_, rfl⟩
                rw [hM6] at HBD HFIN
                have HM6 : Hid (M0 ++ [[Value.int IntKind.i64 m.id, Value.int IntKind.i64 m.lvl, Value.int IntKind.i64 m.cnt, Value.string m.low, Value.string m.high]] = M6) := hM6
                clear hM6
                go_wp2_with fail
                refine HCM.out.mono ?_
                rintro e w5 ⟨a5, n5, c5, rfl, O5, u5⟩
                have B15 := hid (blk_up (blk_up B1j.out HUp2.out) u5.out)
                have y1 := blk_cell B15.out 1 _ rfl
                obtain ⟨b', off', cap', m', e', hm', m0, m1, m2, m3, m4⟩ := ((HAj.out.up HUp2.out).up u5.out).at j hjl
                simp only [Value.slice.injEq, Option.some.injEq, Addr.mk.injEq] at e'
                obtain ⟨⟨rfl, rfl, _⟩, _, rfl⟩ := e'
                obtain rfl : m = m' := by have h1 := HM.out; rw [hm'] at h1; injection h1 with h1; exact h1.symm
                clear hm'
                have S5 : Hid (wp.heap.size ≤ w5.heap.size) := u5.out.size
                go_wp2_with (at_builtin; refine wpList_append_row w5 rfl _ _ 26 139 _ 5 56 rfl Tryz.underlying26 Tryz.info139 rfl (by decide) wp.heap.size (.slice a5 n5 c5) M0 rfl O5.out [.int .i64 m.id, .int .i64 m.lvl, .int .i64 m.cnt, .string m.low, .string m.high] _ _ rfl rfl rfl rfl HO1.out HB5.out.1 HB5.out.2 S5.out ?_)
                intro v6 w6 O6 B6
                rw [HM6.out] at O6
                obtain ⟨a6, n6, c6, rfl, O6'⟩ := rows_shapeR O6
                have u6 : Hid (Below wp.heap.size wp w6) := u5.out.trans B6
                have S6 : Hid (wp.heap.size ≤ w6.heap.size) := u6.out.size
                have HRW := hid (HRD.out w6 u6.out)
                clear O6 B6 m0 m1 m2 m3 m4 y1
                go_wp2_with (at_builtin; refine wpList_append_rows w6 rfl _ _ 26 139 _ 5 56 rfl Tryz.underlying26 Tryz.info139 rfl (by decide) wp.heap.size (.slice a6 n6 c6) M6 rfl O6'.out (.slice (some ⟨bT, offT + p * 5, none⟩) (T2.length - p) (c - p)) MD rfl HRW.out HON.out HBD.out.1 HBD.out.2 S6.out ?_)
                intro v7 w7 O7 g7
                rw [HFIN.out] at O7
                have u7 : Hid (Below wp.heap.size w6 w7) := (Below.refl _ _).grown g7 S6.out (fun k hk => (O6'.out.2.lt k hk).1)
                obtain ⟨a7, n7, c7, rfl, O7'⟩ := rows_shapeR O7
                have HI7 : Hid (putsM add T = putsM (add.drop (j + 1)) (putM m T2)) := by unfold Hid; rw [HIj.out, puts_at add j m T2 HM.out]
                have HL7 : Hid ((putM m T2).length ≤ 256 + (j + 1)) := by have := HLj.out; unfold Hid; rw [putM_len]; omega
                have HS7 : Hid (w1.heap.size ≤ wp.heap.size) := Nat.le_trans HUj.out.size HUp2.out.size
                clear O7 g7
                go_wp2_with fail
                exact ⟨⟨j + 1, a7, n7, c7, putM m T2, by omega, by go_num, rfl, HI7, HL7, O7'.out.mono HS7.out, (up_trans HUj.out HUp2.out).trans ((u6.out.trans u7.out).mono HS7.out)⟩, by simp [intOf]; omega⟩
              · have HPB2 : Hid (∀ q z, q < p + 1 → T2[q]? = some z → befM z m = true) := by
                  intro q z hq hz
                  by_cases e : q = p
                  · subst e
                    rw [HX.out] at hz
                    injection hz with hz
                    rw [← hz]
                    exact hbf
                  · exact HPB.out q z (by omega) hz
                rw [hbf] at HQ
                clear hbf
                go_wp2_with fail
                refine wp_region_up (by kernel_rfl) (by kernel_rfl) ?_
                repeat (go_big_quiet_step ((go_at_call 66; refine calls_up (HQ.out _))))
                refine wpQuiet_nil ?_
                intro _ hw'
                obtain ⟨pp, hw''⟩ := hw'
                subst hw''
                go_wp2_with fail
                exact ⟨⟨p + 1, by omega, by go_num, HPB2, up_trans HUp.out pp.up⟩, by simp [intOf]; omega⟩
            · have hpl' : ¬ (p : Int) < (T2.length : Int) := by omega
              have HPM : Hid (putM m T2 = T2.take p ++ (m :: T2.drop p)) := putM_place m T2 p hp HPB.out (fun z hz => by rw [List.getElem?_eq_none (by omega)] at hz; cases hz)
              go_wp2_with fail
              go_quiet (fail)
              clear m0 m1 m2 m3 m4 y1
              have HUp2 := hid (up_trans HUp.out (up_drewN wr nq))
              clear HUp B1p
              generalize wr.drewN nq = wp at *
              clear nq wr
              obtain rfl : p = T2.length := by omega
              rw [List.take_length, List.drop_length] at HPM
              have hpc : ((T2.length : Nat) : Int) ≤ (c : Int) := by have := HTC.out; omega
              have HCM := hid (HME.out T2 _ wp ((Rws.own HOj.out).up HUp2.out) (by have := HLj.out; omega))
              obtain ⟨MD, hMD⟩ : ∃ MD : List (List Value), MD = [] := ⟨_, rfl⟩
              have HRD : Hid (∀ W, Below wp.heap.size wp W → Rws 5 W (.slice (if c = T2.length then a else a.map (fun x => x.add (T2.length * 5))) 0 (c - T2.length)) MD) := by
                intro W h
                rw [hMD]
                have := rws_from (((Rws.own HOj.out).up HUp2.out).up h) T2.length (by rw [List.length_map]; exact Nat.le_refl _)
                rw [Nat.sub_self, List.drop_eq_nil_of_le (by rw [List.length_map]; exact Nat.le_refl _)] at this
                exact this
              obtain ⟨A, hA⟩ : ∃ A, (if c = T2.length then a else a.map (fun x => x.add (T2.length * 5))) = A := ⟨_, rfl⟩
              rw [hA] at HRD
              have HFIN : Hid ((T2.map meRow ++ [meRow m]) ++ MD = (putM m T2).map meRow) := by
                unfold Hid
                rw [HPM.out, hMD]
                simp
              have HMDL : Hid (MD.length ≤ 512) := by unfold Hid; rw [hMD]; simp
              have HM0L : Hid ((T2.map meRow).length ≤ 512) := by
                have := HLj.out
                unfold Hid
                rw [List.length_map]
                omega
              have HON : Hid (∀ cs ∈ MD, ∀ u ∈ cs, u.oneCell' = true) := fun cs h => by rw [hMD] at h; cases h
              clear hMD
              generalize T2.map meRow = M0 at *
              have HB5 : Hid ((((M0.length + 1 + (M0.length + 1) / 4 + 192) * 56 ≤ 281474976710656)) ∧ M0.length + 1 ≤ maxLen) := by
                have := HM0L.out
                unfold Hid maxLen
                omega
              have HBD : Hid (((((M0 ++ [meRow m]).length + MD.length) + ((M0 ++ [meRow m]).length + MD.length) / 4 + 192) * 56 ≤ 281474976710656) ∧ (M0 ++ [meRow m]).length + MD.length ≤ maxLen) := by
                have := HM0L.out
                have := HMDL.out
                unfold Hid maxLen
                rw [List.length_append]
                simp only [List.length_cons, List.length_nil]
                omega
              have HO1 : Hid (∀ u ∈ ([.int .i64 m.id, .int .i64 m.lvl, .int .i64 m.cnt, .string m.low, .string m.high] : List Value), u.oneCell' = true) := meRow_one m
              unfold meRow at HBD HFIN
              obtain ⟨M6, hM6⟩ : ∃ M6, M0 ++ [[Value.int IntKind.i64 m.id, Value.int IntKind.i64 m.lvl, Value.int IntKind.i64 m.cnt, Value.string m.low, Value.string m.high]] = M6 := ⟨_, rfl⟩
              rw [hM6] at HBD HFIN
              have HM6 : Hid (M0 ++ [[Value.int IntKind.i64 m.id, Value.int IntKind.i64 m.lvl, Value.int IntKind.i64 m.cnt, Value.string m.low, Value.string m.high]] = M6) := hM6
              clear hM6
              go_wp2_with fail
              refine HCM.out.mono ?_
              rintro e w5 ⟨a5, n5, c5, rfl, O5, u5⟩
              have B15 := hid (blk_up (blk_up B1j.out HUp2.out) u5.out)
              have y1 := blk_cell B15.out 1 _ rfl
              obtain ⟨b', off', cap', m', e', hm', m0, m1, m2, m3, m4⟩ := ((HAj.out.up HUp2.out).up u5.out).at j hjl
              simp only [Value.slice.injEq, Option.some.injEq, Addr.mk.injEq] at e'
              obtain ⟨⟨rfl, rfl, _⟩, _, rfl⟩ := e'
              obtain rfl : m = m' := by have h1 := HM.out; rw [hm'] at h1; injection h1 with h1; exact h1.symm
              clear hm'
              have S5 : Hid (wp.heap.size ≤ w5.heap.size) := u5.out.size
              go_wp2_with (at_builtin; refine wpList_append_row w5 rfl _ _ 26 139 _ 5 56 rfl Tryz.underlying26 Tryz.info139 rfl (by decide) wp.heap.size (.slice a5 n5 c5) M0 rfl O5.out [.int .i64 m.id, .int .i64 m.lvl, .int .i64 m.cnt, .string m.low, .string m.high] _ _ rfl rfl rfl rfl HO1.out HB5.out.1 HB5.out.2 S5.out ?_)
              intro v6 w6 O6 B6
              rw [HM6.out] at O6
              obtain ⟨a6, n6, c6, rfl, O6'⟩ := rows_shapeR O6
              have u6 : Hid (Below wp.heap.size wp w6) := u5.out.trans B6
              have S6 : Hid (wp.heap.size ≤ w6.heap.size) := u6.out.size
              have HRW := hid (HRD.out w6 u6.out)
              clear O6 B6 m0 m1 m2 m3 m4 y1
              go_wp2_with (at_builtin; refine wpList_append_rows w6 rfl _ _ 26 139 _ 5 56 rfl Tryz.underlying26 Tryz.info139 rfl (by decide) wp.heap.size (.slice a6 n6 c6) M6 rfl O6'.out (.slice A 0 (c - T2.length)) MD rfl HRW.out HON.out HBD.out.1 HBD.out.2 S6.out ?_)
              intro v7 w7 O7 g7
              rw [HFIN.out] at O7
              have u7 : Hid (Below wp.heap.size w6 w7) := (Below.refl _ _).grown g7 S6.out (fun k hk => (O6'.out.2.lt k hk).1)
              obtain ⟨a7, n7, c7, rfl, O7'⟩ := rows_shapeR O7
              have HI7 : Hid (putsM add T = putsM (add.drop (j + 1)) (putM m T2)) := by unfold Hid; rw [HIj.out, puts_at add j m T2 HM.out]
              have HL7 : Hid ((putM m T2).length ≤ 256 + (j + 1)) := by have := HLj.out; unfold Hid; rw [putM_len]; omega
              have HS7 : Hid (w1.heap.size ≤ wp.heap.size) := Nat.le_trans HUj.out.size HUp2.out.size
              clear O7 g7
              go_wp2_with fail
              exact ⟨⟨j + 1, a7, n7, c7, putM m T2, by omega, by go_num, rfl, HI7, HL7, O7'.out.mono HS7.out, (up_trans HUj.out HUp2.out).trans ((u6.out.trans u7.out).mono HS7.out)⟩, by simp [intOf]; omega⟩
        · have hjl' : ¬ (j : Int) < (add.length : Int) := by omega
          obtain rfl : j = add.length := by omega
          have HPT : Hid (putsM add T = T2) := by unfold Hid; rw [HIj.out, List.drop_length]; rfl
          rw [HPT.out] at HLA
          have y2 := blk_cell B1j.out 2 _ rfl
          have y3 := blk_cell B1j.out 3 _ rfl
          have B2j := hid (blk_up B2.out HUj.out)
          have U3 : Hid (Below w.heap.size w wr) := up_trans U1.out HUj.out
          obtain ⟨w5, hw5⟩ : ∃ w5, w5 = wr.alloc (.cells #[.slice a n c, .int .i64 seq2, .int .i64 next2] 28) := ⟨_, rfl⟩
          have HW5 : Hid (wr.alloc (.cells #[.slice a n c, .int .i64 seq2, .int .i64 next2] 28) = w5) := hw5.symm
          have u5 : Hid (Below wr.heap.size wr w5) := by rw [hw5]; exact up_alloc _ _
          have B5 : Hid (w5.heap[wr.heap.size]? = some (.cells #[.slice a n c, .int .i64 seq2, .int .i64 next2] 28)) := by rw [hw5]; exact blk_new _ _
          clear hw5
          go_upto_region 30 with fail
          rw [HW5.out]
          clear HW5 y1 y2 y3
          have U5 : Hid (Below w.heap.size w w5) := up_trans U3.out u5.out
          have HO5 := hid (HOj.out.up u5.out)
          have B2' := hid (blk_up B2j.out u5.out)
          have HCK : Hid (Calls Tryz.prog 26 #[.agg #[.slice a n c, .int .i64 seq2, .int .i64 next2]] w5 fun e w' => e = .returned (.int .i64 (errV T2 seq2 next2)) ∧ Hid (Below w5.heap.size w5 w')) := refCheck_anyE T2 seq2 next2 a n c w5 (Rws.own HO5.out)
          clear u5 U3 B2j
          generalize wr.heap.size = N5 at *
          have z0 := blk_cell B5.out 0 _ rfl
          have z1 := blk_cell B5.out 1 _ rfl
          have z2 := blk_cell B5.out 2 _ rfl
          rcases errV_cases T2 seq2 next2 with hc | hc
          case inr =>
            rw [hc] at HCK
            have HR : Hid (appM ts seq next drop add seq2 next2 = ([], 9)) := by unfold Hid; rw [HLA.out, hc]; rfl
            clear hc
            go_wp2_with fail
            refine HCK.out.mono ?_
            rintro e w6 ⟨rfl, u6⟩
            replace B2' := hid (blk_up B2'.out u6.out)
            have U6 := hid (up_trans U5.out u6.out)
            clear u6
            have r0 := blk_cell B2'.out 0 _ rfl
            have r1 := blk_cell B2'.out 1 _ rfl
            have r2 := blk_cell B2'.out 2 _ rfl
            have f0 := blk_frozen B2'.out 0
            have f1 := blk_frozen B2'.out 1
            have f2 := blk_frozen B2'.out 2
            go_wp2_with fail
            refine bodyPost_ret (results_ver rfl (.inr rfl) _ _ rfl (set3_blk B2'.out _ _ _)) rfl ?_
            refine HP.out _ _ ?_
            rw [HR.out]
            exact ⟨none, 0, 0, rfl, OwnR.nil _ _ _ _, U6.out.trans (below_grown (set3_grown w6 N2 _ _ _) U6.out.size (fun k hk => by injection hk with hk; have := HN.out; omega))⟩
          rw [hc] at HCK
          have HR : Hid (appM ts seq next drop add seq2 next2 = (T2, 0)) := by unfold Hid; rw [HLA.out, hc]; rfl
          clear hc
          go_wp2_with fail
          refine HCK.out.mono ?_
          rintro e w6 ⟨rfl, u6⟩
          replace B2' := hid (blk_up B2'.out u6.out)
          replace B5 := hid (blk_up B5.out u6.out)
          have U6 := hid (up_trans U5.out u6.out)
          have HO6 := hid (HO5.out.up u6.out)
          clear u6 z0 z1 z2
          have z0 := blk_cell B5.out 0 _ rfl
          have z1 := blk_cell B5.out 1 _ rfl
          have z2 := blk_cell B5.out 2 _ rfl
          have r0 := blk_cell B2'.out 0 _ rfl
          have r1 := blk_cell B2'.out 1 _ rfl
          have r2 := blk_cell B2'.out 2 _ rfl
          have f0 := blk_frozen B2'.out 0
          have f1 := blk_frozen B2'.out 1
          have f2 := blk_frozen B2'.out 2
          go_wp2_with fail
          refine bodyPost_ret (results_ver rfl (.inr rfl) _ _ rfl (set3_blk B2'.out _ _ _)) rfl ?_
          refine HP.out _ _ ?_
          rw [HR.out]
          refine ⟨a, n, c, rfl, ?_, U6.out.trans (below_grown (set3_grown w6 N2 _ _ _) U6.out.size (fun k hk => by injection hk with hk; have := HN.out; omega))⟩
          refine ((HO6.out.mono (Nat.le_of_lt HN.out.1)).far (set3_grown w6 N2 _ _ _) ?_)
          exact own_blk_ne HO6.out.2 B2'.out (by decide)
end Go.Proofs.YtnchjlimkgbfpaaGreatDoor
