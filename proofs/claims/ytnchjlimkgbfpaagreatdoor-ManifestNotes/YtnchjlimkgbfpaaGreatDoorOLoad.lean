
import Derived.Test.YtnchjlimkgbfpaaGreatDoorJ46
namespace Go.Proofs.YtnchjlimkgbfpaaGreatDoor
open Go.RowKit
set_option linter.unusedVariables false
set_option linter.unusedSimpArgs false
set_option maxRecDepth 20000
theorem results_verT {fn : Func} {t : TypeId} {p q r : Nat} (h : fn.results = #[.cell p t, .tmp q, .tmp r]) (hl : t = 39 ∨ t = 28) (tmps : Array Value) (w : World) {N : Nat} {a b c : Value} (ht : tmps.getD p undef = .pointer (some ⟨N, 0, none⟩))
    (hc : w.heap[N]? = some (.cells #[a, b, c] t)) : (results fn tmps).run Tryz.prog w = .ok (.tuple #[.agg #[a, b, c], tmps.getD q undef, tmps.getD r undef]) w := by
  have c0 := blk_cell hc 0 a rfl
  have c1 := blk_cell hc 1 b rfl
  have c2 := blk_cell hc 2 c rfl
  have ht' : tmps[p]?.getD undef = .pointer (some ⟨N, 0, none⟩) := by simpa using ht
  rcases hl with rfl | rfl
  · simp only [results, h]
    simp [ht', go_sem, c0, c1, c2]
  · simp only [results, h]
    simp [ht', go_sem, c0, c1, c2]
def LoadE (w : World) (r : Vn × Int × Int) (e : Ending) (w' : World) : Prop := ∃ a n c s x, e = .returned (.tuple #[.agg #[.slice a n c, .int .i64 s, .int .i64 x], .int .i64 r.2.1, .int .i64 r.2.2]) ∧ Hid (VerP w' w.heap.size (some r.1) a n c s x) ∧ Hid (Below w.heap.size w w')
theorem verP_zero (w : World) (base : Nat) : VerP w base (some ([], 0, 0)) none 0 0 0 0 := by
  intro v hv
  injection hv with hv
  subst hv
  exact ⟨OwnR.nil _ _ _ _, rfl, rfl⟩
theorem load_eq (s : St) : loadP s = if (readP s curL).2 = 0 then (match curOf (readP s curL).1 with
    | none => (([], 0, 0), 0, 21)
    | some id => if (madeP s id).2 = 0 then (match (madeP s id).1 with
      | none => (([], 0, 0), 0, 21)
      | some v => (v, id, 0)) else (([], 0, 0), 0, (madeP s id).2)) else (([], 0, 0), 0, (readP s curL).2) := by
  unfold loadP madeP
  by_cases h : (readP s curL).2 = 0
  · rw [if_pos h, if_pos h]
    cases hc : curOf (readP s curL).1 with
    | none => rfl
    | some id =>
      simp only
      by_cases h2 : (readP s (nameN 109 id).1).2 = 0
      · rw [if_pos h2, if_pos h2]
        cases hm : madeM (readP s (nameN 109 id).1).1 with
        | none => simp
        | some v => simp
      · rw [if_neg h2, if_neg h2, if_neg h2]
  · rw [if_neg h, if_neg h]
theorem cur_range {b : List Int} {id : Int} (h : curOf b = some id) : idOk id = true := by
  unfold curOf at h
  split at h
  · rename_i q
    injection h with h
    rw [← h]
    simp [idOk, q.2.2.2.2.2.1, q.2.2.2.2.2.2]
  · cases h
theorem made_some {s : St} {id : Int} : (madeP s id).2 = 0 → ∃ v, (madeP s id).1 = some v := by
  unfold madeP
  intro h
  by_cases h2 : (readP s (nameN 109 id).1).2 = 0
  · rw [if_pos h2] at h ⊢
    cases hm : madeM (readP s (nameN 109 id).1).1 with
    | none => rw [hm] at h; simp at h
    | some v => exact ⟨v, rfl⟩
  · rw [if_neg h2] at h
    exact absurd h h2
set_option maxHeartbeats 4000000 in
theorem load_any (s : St) (v : Value) (w : World) (hv : StW w v s) (hl : s.names.length + s.safe.length ≤ 9223372036854775807) (ht : Tab w) :
    Calls Tryz.prog 19 #[v] w (LoadE w (loadP s)) := by
  obtain ⟨Post, hP⟩ : ∃ Post : Ending → World → Prop, Post = LoadE w (loadP s) := ⟨_, rfl⟩
  have HPost : Hid (∀ e w', LoadE w (loadP s) e w' → Post e w') := fun e w' h => by rw [hP]; exact h
  rw [← hP]
  clear hP
  obtain ⟨af, nf, cf, an, nn, cn, as', ns, cs', ev⟩ := hv.shape
  subst ev
  have HS : Hid (StW w (.agg #[.int .i64 s.cap, .slice af nf cf, .slice an nn cn, .slice as' ns cs', .int .i64 s.next]) s) := hv
  have HT : Hid (Tab w) := ht
  obtain ⟨w0, hw0⟩ : ∃ w0, w0 = (w.alloc (.cells #[.int .i64 s.cap, .slice af nf cf, .slice an nn cn, .slice as' ns cs', .int .i64 s.next] 35)).alloc (.cells #[.slice none 0 0, .int .i64 0, .int .i64 0] 39) := ⟨_, rfl⟩
  have HW0 : Hid ((w.alloc (.cells #[.int .i64 s.cap, .slice af nf cf, .slice an nn cn, .slice as' ns cs', .int .i64 s.next] 35)).alloc (.cells #[.slice none 0 0, .int .i64 0, .int .i64 0] 39) = w0) := hid hw0.symm
  have U0 : Hid (Below w.heap.size w w0) := by rw [hw0]; exact up_al (up_alloc _ _) _
  have sz1 : ∀ (W : World) (o : Obj), (W.alloc o).heap.size = W.heap.size + 1 := fun W o => by simp
  have B0 : Hid (w0.heap[w.heap.size]? = some (.cells #[.int .i64 s.cap, .slice af nf cf, .slice an nn cn, .slice as' ns cs', .int .i64 s.next] 35)) := by rw [hw0]; exact blk_up (blk_new _ _) (up_alloc _ _)
  have B2 : Hid (w0.heap[w.heap.size + 1]? = some (.cells #[.slice none 0 0, .int .i64 0, .int .i64 0] 39)) := by
    rw [hw0, ← sz1 w (.cells #[.int .i64 s.cap, .slice af nf cf, .slice an nn cn, .slice as' ns cs', .int .i64 s.next] 35)]
    exact blk_new _ _
  have hcoct : ∀ y ∈ curL, 0 ≤ y ∧ y ≤ 255 := by unfold curL; intro y hy; simp at hy; omega
  have HRd : Hid (Calls Tryz.prog 50 #[.agg #[.int .i64 s.cap, .slice af nf cf, .slice an nn cn, .slice as' ns cs', .int .i64 s.next], .string { data := #[67, 85, 82, 82, 69, 78, 84] }] w0 fun e w' => ∃ v', e = .returned (.tuple #[v', .int .i64 (readP s curL).2]) ∧ OwnB w' w0.heap.size v' (readP s curL).1 ∧ OctL (readP s curL).1 ∧ Below w0.heap.size w0 w') := read_any s curL hcoct _ w0 (HS.out.up U0.out) hl
  have HLd := hid (load_eq s)
  obtain ⟨b, hb⟩ : ∃ b, b = (readP s curL).1 := ⟨_, rfl⟩
  obtain ⟨er, her⟩ : ∃ er, er = (readP s curL).2 := ⟨_, rfl⟩
  rw [← hb, ← her] at HRd HLd
  have HMa : Hid (∀ id, idOk id = true → ∀ W, Below w.heap.size w W → Calls Tryz.prog 52 #[.agg #[.int .i64 s.cap, .slice af nf cf, .slice an nn cn, .slice as' ns cs', .int .i64 s.next], .int .i64 id] W fun e w' => ∃ a n c sx x, e = .returned (.tuple #[.agg #[.slice a n c, .int .i64 sx, .int .i64 x], .int .i64 (madeP s id).2]) ∧ Hid (VerP w' W.heap.size (madeP s id).1 a n c sx x) ∧ Hid (Below W.heap.size W w')) := fun id hi W hW => made_any s _ id hi W (HS.out.up hW) hl (HT.out.up hW)
  have HN2 : Hid (w.heap.size ≤ w.heap.size + 1) := Nat.le_succ _
  have x0 := blk_cell B0.out 0 _ rfl
  have x1 := blk_cell B0.out 1 _ rfl
  have x2 := blk_cell B0.out 2 _ rfl
  have x3 := blk_cell B0.out 3 _ rfl
  have x4 := blk_cell B0.out 4 _ rfl
  clear hw0 hv ht sz1 hb her hcoct
  go_enter Tryz.func19, Tryz.ntmps19
  go_upto_region 1 with fail
  rw [HW0.out]
  clear HW0
  generalize hNr : w.heap.size + 1 = N2 at *
  clear hNr
  go_wp2_with fail
  refine HRd.out.mono ?_
  rintro e w1 ⟨v1, rfl, o1, ol, b1⟩
  obtain ⟨a1, n1, c1, e1, -⟩ := own_shape o1
  subst e1
  have U1 : Hid (Below w.heap.size w w1) := up_trans U0.out b1
  have B01 : Hid (w1.heap[w.heap.size]? = some (.cells #[.int .i64 s.cap, .slice af nf cf, .slice an nn cn, .slice as' ns cs', .int .i64 s.next] 35)) := blk_up B0.out b1
  have B21 : Hid (w1.heap[N2]? = some (.cells #[.slice none 0 0, .int .i64 0, .int .i64 0] 39)) := blk_up B2.out b1
  have O1 : Hid (Octs w1 (.slice a1 n1 c1) b) := Octs.own o1 ol
  have HCu := hid (curID_any b (.slice a1 n1 c1) w1 O1.out)
  clear o1 ol b1 HRd x0 x1 x2 x3 x4 B0 B2
  by_cases q1 : er = 0
  case neg =>
    have q1b : (er != 0) = true := by simpa using q1
    have HL2 : Hid (loadP s = (([], 0, 0), 0, er)) := by rw [HLd.out, if_neg q1]; rfl
    have z0 := blk_cell B21.out 0 _ rfl
    have z1 := blk_cell B21.out 1 _ rfl
    have z2 := blk_cell B21.out 2 _ rfl
    have f0 := blk_frozen B21.out 0
    have f1 := blk_frozen B21.out 1
    have f2 := blk_frozen B21.out 2
    clear HLd q1
    go_wp2_with fail
    refine bodyPost_ret (results_verT rfl (.inl rfl) _ _ rfl (set3_blk B21.out _ _ _)) rfl ?_
    refine HPost.out _ _ ?_
    rw [HL2.out]
    exact ⟨_, _, _, _, _, rfl, verP_zero _ _, up_set3 U1.out HN2.out⟩
  subst q1
  have hl1 : loadP s = (match curOf b with
    | none => (([], 0, 0), 0, 21)
    | some id => if (madeP s id).2 = 0 then (match (madeP s id).1 with
      | none => (([], 0, 0), 0, 21)
      | some v => (v, id, 0)) else (([], 0, 0), 0, (madeP s id).2)) := by rw [HLd.out, if_pos rfl]
  have HL1 := hid hl1
  clear HLd hl1
  cases hcu : curOf b with
  | none =>
    have HL2 : Hid (loadP s = (([], 0, 0), 0, 21)) := by rw [HL1.out, hcu]; rfl
    rw [hcu] at HCu
    have hcr : curR none = .tuple #[.int .i64 0, .int .i64 21] := rfl
    rw [hcr] at HCu
    clear HL1 hcu hcr
    go_wp2_with fail
    refine HCu.out.mono ?_
    rintro e w2 ⟨rfl, b2⟩
    have U2 : Hid (Below w.heap.size w w2) := up_trans U1.out b2.out
    have B22 : Hid (w2.heap[N2]? = some (.cells #[.slice none 0 0, .int .i64 0, .int .i64 0] 39)) := blk_up B21.out b2.out
    have z0 := blk_cell B22.out 0 _ rfl
    have z1 := blk_cell B22.out 1 _ rfl
    have z2 := blk_cell B22.out 2 _ rfl
    have f0 := blk_frozen B22.out 0
    have f1 := blk_frozen B22.out 1
    have f2 := blk_frozen B22.out 2
    clear b2 HCu
    go_wp2_with fail
    refine bodyPost_ret (results_verT rfl (.inl rfl) _ _ rfl (set3_blk B22.out _ _ _)) rfl ?_
    refine HPost.out _ _ ?_
    rw [HL2.out]
    exact ⟨_, _, _, _, _, rfl, verP_zero _ _, up_set3 U2.out HN2.out⟩
  | some id =>
    have hl2 : loadP s = (if (madeP s id).2 = 0 then (match (madeP s id).1 with
      | none => (([], 0, 0), 0, 21)
      | some v => (v, id, 0)) else (([], 0, 0), 0, (madeP s id).2)) := by rw [HL1.out, hcu]
    have HL2 := hid hl2
    have HMa2 := hid (HMa.out id (cur_range hcu))
    have HMs := hid (@made_some s id)
    rw [hcu] at HCu
    have hcr : curR (some id) = .tuple #[.int .i64 id, .int .i64 0] := rfl
    rw [hcr] at HCu
    generalize madeP s id = R at *
    clear HL1 hcu hcr hl2 HMa
    go_wp2_with fail
    refine HCu.out.mono ?_
    rintro e w2 ⟨rfl, b2⟩
    have U2 : Hid (Below w.heap.size w w2) := up_trans U1.out b2.out
    have B22 : Hid (w2.heap[N2]? = some (.cells #[.slice none 0 0, .int .i64 0, .int .i64 0] 39)) := blk_up B21.out b2.out
    have x0 := blk_cell (blk_up B01.out b2.out) 0 _ rfl
    have x1 := blk_cell (blk_up B01.out b2.out) 1 _ rfl
    have x2 := blk_cell (blk_up B01.out b2.out) 2 _ rfl
    have x3 := blk_cell (blk_up B01.out b2.out) 3 _ rfl
    have x4 := blk_cell (blk_up B01.out b2.out) 4 _ rfl
    have HM2 := hid (HMa2.out w2 U2.out)
    clear b2 HCu HMa2
    go_wp2_with fail
    refine HM2.out.mono ?_
    rintro e w3 ⟨a3, n3, c3, s3, y3, rfl, HV3, b3⟩
    obtain ⟨w4, hw4⟩ : ∃ w4, w4 = w3.alloc (.cells #[.slice a3 n3 c3, .int .i64 s3, .int .i64 y3] 39) := ⟨_, rfl⟩
    have HW4 : Hid (w3.alloc (.cells #[.slice a3 n3 c3, .int .i64 s3, .int .i64 y3] 39) = w4) := hid hw4.symm
    have V4 : Hid (Below w3.heap.size w3 w4) := by rw [hw4]; exact up_alloc _ _
    have U4 : Hid (Below w.heap.size w w4) := up_trans U2.out (up_trans b3.out V4.out)
    have B24 : Hid (w4.heap[N2]? = some (.cells #[.slice none 0 0, .int .i64 0, .int .i64 0] 39)) := blk_up B22.out (up_trans b3.out V4.out)
    have B8 : Hid (w4.heap[w3.heap.size]? = some (.cells #[.slice a3 n3 c3, .int .i64 s3, .int .i64 y3] 39)) := by rw [hw4]; exact blk_new _ _
    have z0 := blk_cell B24.out 0 _ rfl
    have z1 := blk_cell B24.out 1 _ rfl
    have z2 := blk_cell B24.out 2 _ rfl
    have f0 := blk_frozen B24.out 0
    have f1 := blk_frozen B24.out 1
    have f2 := blk_frozen B24.out 2
    clear hw4 b3 HM2 x0 x1 x2 x3 x4
    go_upto_region 8 with fail
    rw [HW4.out]
    clear HW4
    by_cases q2 : R.2 = 0
    · obtain ⟨vr, hvr⟩ := HMs.out q2
      have HL3 : Hid (loadP s = (vr, id, 0)) := by rw [HL2.out, if_pos q2, hvr]; rfl
      obtain ⟨hO, hs, hy⟩ := HV3.out vr hvr
      have O4 : Hid (OwnR w4 w2.heap.size 148 5 (.slice a3 n3 c3) (vr.1.map meRow)) := hO.up V4.out
      have HSy := hid (And.intro hs hy)
      have p0 := blk_cell B8.out 0 _ rfl
      have p1 := blk_cell B8.out 1 _ rfl
      have p2 := blk_cell B8.out 2 _ rfl
      clear HL2 HMs hO hs hy hvr HV3
      go_wp2_with fail
      refine bodyPost_ret (results_verT rfl (.inl rfl) _ _ rfl (set3_blk B24.out _ _ _)) rfl ?_
      refine HPost.out _ _ ?_
      rw [HL3.out]
      refine ⟨a3, n3, c3, s3, y3, rfl, ?_, up_set3 U4.out HN2.out⟩
      intro v hv
      injection hv with hv
      subst hv
      refine ⟨?_, HSy.out.1, HSy.out.2⟩
      refine ((O4.out.mono U2.out.size).far (set3_grown w4 N2 _ _ _) ?_)
      exact own_blk_ne O4.out.2 B24.out (by decide)
    · have q2b : (R.2 != 0) = true := by simpa using q2
      have HL3 : Hid (loadP s = (([], 0, 0), 0, R.2)) := by rw [HL2.out, if_neg q2]; rfl
      clear HL2 HMs HV3 q2
      go_wp2_with fail
      refine bodyPost_ret (results_verT rfl (.inl rfl) _ _ rfl (set3_blk B24.out _ _ _)) rfl ?_
      refine HPost.out _ _ ?_
      rw [HL3.out]
      exact ⟨_, _, _, _, _, rfl, verP_zero _ _, up_set3 U4.out HN2.out⟩
end Go.Proofs.YtnchjlimkgbfpaaGreatDoor
