/- The texts R1, R2, R3, R4, R5, R6, R7, S1, S2, S3, in this order. -/
import Derived.Test.YtnchjlimkgbfpaaGreatDoorE21
import Derived.Lib.SlBytesConst
import Derived.ProofKit
import Derived.OpenShut
import Derived.SizedLaws

namespace Go.Proofs.YtnchjlimkgbfpaaGreatDoor
open Go.RowKit
set_option linter.unusedVariables false
set_option maxRecDepth 20000
set_option linter.unusedSimpArgs false
def z0 : St := ⟨0, [], [], [], 0⟩
theorem OwnV.zero (w : World) (base : Nat) (c n : Int) (hc : In64 c) (hn : In64 n) : OwnV w base (.agg #[.int .i64 c, .slice none 0 0, .slice none 0 0, .slice none 0 0, .int .i64 n]) ⟨c, [], [], [], n⟩ :=
  ⟨_, _, _, [], rfl, rfl, ⟨OwnR.nil _ _ _ _, (fun y hy => by cases hy), List.Pairwise.nil⟩, OwnN.nil _ _ _, OwnN.nil _ _ _, .inl rfl, hc, hn⟩
theorem OwnS.take {w : World} {base B : Nat} {s : St} (h : OwnS w base B s) : ∃ vf vn vs, w.heap[B]? = some (.cells #[.int .i64 s.cap, vf, vn, vs, .int .i64 s.next] 35) ∧ OwnV w base (.agg #[.int .i64 s.cap, vf, vn, vs, .int .i64 s.next]) s := by
  obtain ⟨_, vf, vn, vs, m, hb, hm, of, on, os, hap, hi1, hi2⟩ := h
  exact ⟨vf, vn, vs, hb, vf, vn, vs, m, rfl, hm, of, on, os, hap, hi1, hi2⟩
theorem OwnV.put {w : World} {base : Nat} {s : St} {a b c d e : Value} (h : OwnV w base (.agg #[a, b, c, d, e]) s) {N : Nat} {x0 x1 x2 x3 x4 : Value} (hb : w.heap[N]? = some (.cells #[x0, x1, x2, x3, x4] 35)) :
    OwnS (set5 w N a b c d e) base N s ∧ OwnV (set5 w N a b c d e) base (.agg #[a, b, c, d, e]) s := by
  obtain ⟨vf, vn, vs, m, ev, hm, of, on, os, hap, hi1, hi2⟩ := h
  have g5 := set5_grown w N a b c d e
  have b5 := set5_blk hb a b c d e
  simp at ev
  obtain ⟨rfl, rfl, rfl, rfl, rfl⟩ := ev
  have of5 := of.far g5 (own_blk_ne of.1.2 hb (by decide)) (fun y hy => own_blk_ne (of.2.1 y hy).1 hb (by decide))
  have on5 := on.far g5 (own_blk_ne on.2.2 hb (by decide))
  have os5 := os.far g5 (own_blk_ne os.2.2 hb (by decide))
  exact ⟨⟨trivial, _, _, _, m, b5, hm, of5, on5, os5, hap, hi1, hi2⟩, ⟨_, _, _, m, rfl, hm, of5, on5, os5, hap, hi1, hi2⟩⟩
theorem OwnV.shape {w : World} {base : Nat} {v : Value} {s : St} (h : OwnV w base v s) : ∃ af nf cf an nn cn as' ns cs', v = .agg #[.int .i64 s.cap, .slice af nf cf, .slice an nn cn, .slice as' ns cs', .int .i64 s.next] := by
  obtain ⟨vf, vn, vs, m, rfl, hm, of, on, os, hap, hi1, hi2⟩ := h
  obtain ⟨a1, c1, e1, _, _⟩ := (NamesW.own on).len
  obtain ⟨a2, c2, e2, _, _⟩ := (NamesW.own os).len
  obtain ⟨a3, c3, e3, _, _⟩ := (Rws.own of.1).len
  subst e1
  subst e2
  subst e3
  exact ⟨_, _, _, _, _, _, _, _, _, rfl⟩
theorem StW.shape {w : World} {v : Value} {s : St} (h : StW w v s) : ∃ af nf cf an nn cn as' ns cs', v = .agg #[.int .i64 s.cap, .slice af nf cf, .slice an nn cn, .slice as' ns cs', .int .i64 s.next] := by
  obtain ⟨vf, vn, vs, rfl, hf, hn, hs, hi1, hi2⟩ := h
  obtain ⟨a1, c1, e1, _, _⟩ := hn.len
  obtain ⟨a2, c2, e2, _, _⟩ := hs.len
  obtain ⟨a3, c3, e3, _, _⟩ := hf.len
  subst e1
  subst e2
  subst e3
  exact ⟨_, _, _, _, _, _, _, _, _, rfl⟩
end Go.Proofs.YtnchjlimkgbfpaaGreatDoor

namespace Go.Proofs.YtnchjlimkgbfpaaGreatDoor
open Go.RowKit
set_option linter.unusedVariables false
set_option maxRecDepth 20000
set_option linter.unusedSimpArgs false
def readP (s : St) (name : List Int) : List Int × Int := if checkP s then (if hasF s name then ((fileD s (idxF s name)).2.1, 0) else ([], 71)) else ([], 9)
set_option maxHeartbeats 2000000 in
set_option maxRecDepth 20000 in
theorem read_any (s : St) (name : List Int) (hna : OctL name) (v : Value) (w : World) (hv : StW w v s) (hl : s.names.length + s.safe.length ≤ 9223372036854775807) :
    Calls Tryz.prog 50 #[v, .string (strOfNums name)] w fun e w' => ∃ v', e = .returned (.tuple #[v', .int .i64 (readP s name).2]) ∧ OwnB w' w.heap.size v' (readP s name).1 ∧ OctL (readP s name).1 ∧ Below w.heap.size w w' := by
  obtain ⟨af, nf, cf, an, nn, cn, as', ns, cs', ev⟩ := hv.shape
  subst ev
  obtain ⟨wx, hwx⟩ : ∃ wx, wx = w.alloc (.cells #[.int .i64 s.cap, .slice af nf cf, .slice an nn cn, .slice as' ns cs', .int .i64 s.next] 35) := ⟨_, rfl⟩
  have HX : Hid (w.alloc (.cells #[.int .i64 s.cap, .slice af nf cf, .slice an nn cn, .slice as' ns cs', .int .i64 s.next] 35) = wx) := hwx.symm
  have bx : Hid (BoxW w (.cells #[.int .i64 s.cap, .slice af nf cf, .slice an nn cn, .slice as' ns cs', .int .i64 s.next] 35) wx) := by rw [hwx]; exact BoxW.start _ _
  have HS : Hid (StW w (.agg #[.int .i64 s.cap, .slice af nf cf, .slice an nn cn, .slice as' ns cs', .int .i64 s.next]) s) := hv
  clear hv hwx
  go_enter Tryz.func50, Tryz.ntmps50
  go_upto_region 1 with fail
  rw [HX.out]
  clear HX
  have q0 := bx.out.cell 0 _ rfl
  have q1 := bx.out.cell 1 _ rfl
  have q2 := bx.out.cell 2 _ rfl
  have q3 := bx.out.cell 3 _ rfl
  have q4 := bx.out.cell 4 _ rfl
  have hc := check_any s _ wx (HS.out.up bx.out.up) hl
  cases hchk : checkP s with
  | false =>
    have HR : Hid (readP s name = ([], 9)) := by unfold Hid readP; rw [hchk]; rfl
    rw [hchk] at hc
    have he : errOf false = 9 := rfl
    rw [he] at hc
    clear hchk he
    go_wp2_with fail
    refine hc.mono ?_
    rintro e w1 ⟨rfl, u1⟩
    have up1 : Hid (Below w.heap.size w w1) := up_trans bx.out.up u1
    clear u1 hc q0 q1 q2 q3 q4
    go_wp2_with fail
    go_ret2
    rw [HR.out]
    exact ⟨_, rfl, OwnB.nil _ _, (fun x hx => by cases hx), up1.out⟩
  | true =>
    have HSo : Hid (Sound s) := check_sound hchk
    have HR : Hid (readP s name = if hasF s name then ((fileD s (idxF s name)).2.1, 0) else ([], 71)) := by unfold Hid readP; rw [hchk]; rfl
    rw [hchk] at hc
    have he : errOf true = 0 := rfl
    rw [he] at hc
    clear hchk he
    go_wp2_with fail
    refine hc.mono ?_
    rintro e w1 ⟨rfl, u1⟩
    have bx1 : Hid (BoxW w (.cells #[.int .i64 s.cap, .slice af nf cf, .slice an nn cn, .slice as' ns cs', .int .i64 s.next] 35) w1) := bx.out.step u1
    clear u1 hc q0 q1 q2 q3 q4
    have q0 := bx1.out.cell 0 _ rfl
    have q1 := bx1.out.cell 1 _ rfl
    have q2 := bx1.out.cell 2 _ rfl
    have q3 := bx1.out.cell 3 _ rfl
    have q4 := bx1.out.cell 4 _ rfl
    have hst := HS.out.up bx1.out.up
    obtain ⟨vf, vn, vs, ev, hf, hn, hs, hi1, hi2⟩ := hst
    simp at ev
    obtain ⟨rfl, rfl, rfl⟩ := ev
    have HF : Hid (FilesW w1 (.slice af nf cf) s.files) := hf
    have hcf := file_any s.files s.names name hna (.int .i64 s.cap) _ _ (.slice as' ns cs') (.int .i64 s.next) w1 hf hn (by have := HSo.out.1.1; omega) (by have := HSo.out.1.2.1; omega) HSo.out.1.2.2.2.2 HSo.out.1.2.2.2.1
    have eh : (thereN s.names name && thereF s.files (s.names.getD (rankN s.names name) ([], 0)).2) = hasF s name := rfl
    rw [eh] at hcf
    clear hf hn hs hi1 hi2 eh
    cases hth : hasF s name with
    | false =>
      have HR2 : Hid (readP s name = ([], 71)) := by unfold Hid; rw [HR.out, hth]; rfl
      rw [hth] at hcf
      clear hth
      generalize (if thereN s.names name = true then ((rankF s.files (s.names.getD (rankN s.names name) ([], 0)).2 : Nat) : Int) else 0) = ix at hcf
      go_wp2_with fail
      refine hcf.mono ?_
      rintro e w2 ⟨rfl, u2⟩
      have up2 : Hid (Below w.heap.size w w2) := up_trans bx1.out.up u2
      clear u2 hcf q0 q1 q2 q3 q4
      go_wp2_with fail
      go_ret2
      rw [HR2.out]
      exact ⟨_, rfl, OwnB.nil _ _, (fun x hx => by cases hx), up2.out⟩
    | true =>
      have hlt := idx_lt hth
      have HR2 : Hid (readP s name = ((fileD s (idxF s name)).2.1, 0)) := by unfold Hid; rw [HR.out, hth]; rfl
      have ei : (if thereN s.names name = true then ((rankF s.files (s.names.getD (rankN s.names name) ([], 0)).2 : Nat) : Int) else 0) = ((idxF s name : Nat) : Int) := by
        have h1 : thereN s.names name = true := by
          unfold hasF at hth
          rw [Bool.and_eq_true] at hth
          exact hth.1
        rw [if_pos h1]
        rfl
      rw [hth, ei] at hcf
      clear hth ei
      generalize idxF s name = i at *
      have hii : (i : Int) < (s.files.length : Int) := by omega
      go_wp2_with fail
      refine hcf.mono ?_
      rintro e w2 ⟨rfl, u2⟩
      have bx2 : Hid (BoxW w (.cells #[.int .i64 s.cap, .slice af nf cf, .slice an nn cn, .slice as' ns cs', .int .i64 s.next] 35) w2) := bx1.out.step u2
      have HF2 : Hid (FilesW w2 (.slice af nf cf) s.files) := HF.out.up u2
      clear u2 hcf q0 q1 q2 q3 q4
      have q1 := bx2.out.cell 1 _ rfl
      obtain ⟨b, off, cap', u, e, _, _, c0, c1, c2, ho, hdl, _⟩ := HF2.out.at i hlt
      simp at e
      obtain ⟨rfl, rfl, rfl⟩ := e
      have HO : Hid (Octs w2 u (fileD s i).2.1 ∧ (fileD s i).2.1.length ≤ 140737488355328) := ⟨ho, hdl⟩
      clear ho hdl c0 c2
      obtain ⟨au, cu, eu, _⟩ := HO.out.1.slice
      subst eu
      go_wp2_with fail
      refine (freshB_any _ _ w2 HO.out.1 HO.out.2).mono ?_
      rintro e w3 ⟨v3, rfl, ob3, u3⟩
      have HO3 : Hid (OwnB w3 w.heap.size v3 (fileD s i).2.1 ∧ Below w.heap.size w w3) := ⟨ob3.mono bx2.out.up.size, up_trans bx2.out.up u3⟩
      clear ob3 u3 q1 c1
      go_wp2_with fail
      go_ret2
      rw [HR2.out]
      exact ⟨_, rfl, HO3.out.1, HO.out.1.1, HO3.out.2⟩
def listP (s : St) : List (List Int) × Int := if checkP s then (s.names.map (·.1), 0) else ([], 9)
def srow (t : List Int) : List Value := [.string (strOfNums t)]
theorem Tryz.info9 : (Tryz.prog.info? 9).map (fun i => (i.zero, i.size, i.bytes)) = some (some (.string ⟨#[]⟩), 1, 16) := by kernel_rfl
set_option maxHeartbeats 2000000 in
set_option maxRecDepth 20000 in
theorem list_any (s : St) (v : Value) (w : World) (hv : StW w v s) (hl : s.names.length + s.safe.length ≤ 9223372036854775807) :
    Calls Tryz.prog 33 #[v] w fun e w' => ∃ v', e = .returned (.tuple #[v', .int .i64 (listP s).2]) ∧ OwnR w' w.heap.size 9 1 v' ((listP s).1.map srow) ∧ Below w.heap.size w w' := by
  obtain ⟨af, nf, cf, an, nn, cn, as', ns, cs', ev⟩ := hv.shape
  subst ev
  obtain ⟨wx, hwx⟩ : ∃ wx, wx = w.alloc (.cells #[.int .i64 s.cap, .slice af nf cf, .slice an nn cn, .slice as' ns cs', .int .i64 s.next] 35) := ⟨_, rfl⟩
  have HX : Hid (w.alloc (.cells #[.int .i64 s.cap, .slice af nf cf, .slice an nn cn, .slice as' ns cs', .int .i64 s.next] 35) = wx) := hwx.symm
  have bx : Hid (BoxW w (.cells #[.int .i64 s.cap, .slice af nf cf, .slice an nn cn, .slice as' ns cs', .int .i64 s.next] 35) wx) := by rw [hwx]; exact BoxW.start _ _
  have HS : Hid (StW w (.agg #[.int .i64 s.cap, .slice af nf cf, .slice an nn cn, .slice as' ns cs', .int .i64 s.next]) s) := hv
  clear hv hwx
  go_enter Tryz.func33, Tryz.ntmps33
  go_upto_region 1 with fail
  rw [HX.out]
  clear HX
  have q0 := bx.out.cell 0 _ rfl
  have q1 := bx.out.cell 1 _ rfl
  have q2 := bx.out.cell 2 _ rfl
  have q3 := bx.out.cell 3 _ rfl
  have q4 := bx.out.cell 4 _ rfl
  have hc := check_any s _ wx (HS.out.up bx.out.up) hl
  cases hchk : checkP s with
  | false =>
    have HR : Hid (listP s = ([], 9)) := by unfold Hid listP; rw [hchk]; rfl
    rw [hchk] at hc
    have he : errOf false = 9 := rfl
    rw [he] at hc
    clear hchk he
    go_wp2_with fail
    refine hc.mono ?_
    rintro e w1 ⟨rfl, u1⟩
    have up1 : Hid (Below w.heap.size w w1) := up_trans bx.out.up u1
    clear u1 hc q0 q1 q2 q3 q4
    go_wp2_with fail
    go_ret2
    rw [HR.out]
    exact ⟨_, rfl, OwnR.nil _ _ _ _, up1.out⟩
  | true =>
    have HSo : Hid (Sound s) := check_sound hchk
    have HR : Hid (listP s = (s.names.map (·.1), 0)) := by unfold Hid listP; rw [hchk]; rfl
    rw [hchk] at hc
    have he : errOf true = 0 := rfl
    rw [he] at hc
    clear hchk he
    go_wp2_with fail
    refine hc.mono ?_
    rintro e w1 ⟨rfl, u1⟩
    have bx1 : Hid (BoxW w (.cells #[.int .i64 s.cap, .slice af nf cf, .slice an nn cn, .slice as' ns cs', .int .i64 s.next] 35) w1) := bx.out.step u1
    clear u1 hc q0 q1 q2 q3 q4
    have q2 := bx1.out.cell 2 _ rfl
    have hst := HS.out.up bx1.out.up
    obtain ⟨vf, vn, vs, ev, hf, hn, hs, hi1, hi2⟩ := hst
    simp at ev
    obtain ⟨rfl, rfl, rfl⟩ := ev
    obtain ⟨x1, x2, en, _, _⟩ := hn.len
    injection en with en1 en2 en3
    subst en2
    clear en1 en3
    have HN : Hid (NamesW w1 (.slice an s.names.length cn) s.names) := hn
    have hln := HSo.out.1.2.1
    clear hf hn hs hi1 hi2
    go_wp2_with fail
    clear q2
    go_loopw [5, 16] (fun vb i wr => ∃ k : Nat, k ≤ s.names.length ∧ i = .int .i64 k ∧ Hid (OwnR wr w1.heap.size 9 1 vb (((s.names.take k).map (·.1)).map srow)) ∧ Hid (Below w1.heap.size w1 wr)) (fun _ i _ => s.names.length - (intOf i).toNat)
    case atStart => exact ⟨0, Nat.zero_le _, rfl, OwnR.nil _ _ _ _, Below.refl _ _⟩
    case round =>
      obtain ⟨k, hk, rfl, HO, up⟩ := hrel
      by_cases hlt : k < s.names.length
      · have hlt' : (k : Int) < (s.names.length : Int) := by omega
        obtain ⟨b, off, cap', e, _, _, c0, c1, ho, _, hi'⟩ := (HN.out.up up.out).at k hlt
        simp at e
        obtain ⟨rfl, rfl⟩ := e
        have HT : Hid (s.names.take (k + 1) = s.names.take k ++ [s.names.getD k ([], 0)]) := take_snoc s.names k _ hlt
        have HKl : Hid ((((s.names.take k).map (·.1)).map srow).length = k) := by simp [Hid]; omega
        generalize s.names.getD k ([], 0) = y at *
        obtain ⟨ys, yi⟩ := y
        simp only at c0 c1 HT
        have hsz1 := bx1.out.up.size
        have hsz2 := up.out.size
        obtain ⟨vl, cl, ev5, _, _⟩ := (Rws.own HO.out).len
        subst ev5
        rw [HKl.out] at HO ⊢
        have HOx : Hid (OwnR (wr.alloc (.cells #[.string (strOfNums ys), .int .i64 yi] 146)) w1.heap.size 9 1 (.slice vl k cl) (((s.names.take k).map (·.1)).map srow)) := HO.out.up (up_al (Below.refl _ _) _)
        go_wp2_with (at_builtin; refine wpList_append_row (wr.alloc (.cells #[.string (strOfNums ys), .int .i64 yi] 146)) rfl (.tmp 20) (.tmp 23) 62 9 (.string ⟨#[]⟩) 1 16 rfl Tryz.underlying62 Tryz.info9 rfl (by decide) w1.heap.size (.slice vl k cl) _ rfl HOx.out (srow ys) _ (wr.heap.size + 1) ?n1 rfl rfl rfl ?n2 ?n3 ?n4 ?n5 ?_)
        try case n1 => ((try simp))
        try case n2 => (intro u hu; simp [srow] at hu; subst hu; rfl)
        try case n3 => ((try rw [HKl.out]); omega)
        try case n4 => ((try rw [HKl.out]); unfold maxLen; omega)
        try case n5 => ((try simp); omega)
        intro v6 w6 o6 b6
        have HO6 : Hid (OwnR w6 w1.heap.size 9 1 v6 (((s.names.take (k + 1)).map (·.1)).map srow)) := by
          unfold Hid
          rw [HT.out, List.map_append, List.map_append]
          simpa using o6
        have HU6 : Hid (Below w1.heap.size w1 w6) := (up_al up.out _).trans b6
        clear o6 b6
        go_wp2_with fail
        exact ⟨⟨k + 1, by omega, by go_num, HO6, HU6⟩, by simp [intOf]; omega⟩
      · have hlt' : ¬ (k : Int) < (s.names.length : Int) := by omega
        obtain rfl : k = s.names.length := by omega
        rw [List.take_length] at HO
        have HO6 := HO
        go_wp2_with fail
        go_ret2
        rw [HR.out]
        exact ⟨_, rfl, HO6.out.mono bx1.out.up.size, up_trans bx1.out.up up.out⟩
end Go.Proofs.YtnchjlimkgbfpaaGreatDoor

namespace Go.Proofs.YtnchjlimkgbfpaaGreatDoor
open Go.RowKit
set_option linter.unusedVariables false
set_option maxRecDepth 20000
set_option linter.unusedSimpArgs false
theorem own_take {w : World} {base : Nat} {e : TypeId} {sz g n cap : Nat} {css : List (List Value)} (h : OwnR w base e sz (.slice (some ⟨g, 0, none⟩) n cap) css) (k : Nat) (hk : k ≤ n) : OwnR w base e sz (.slice (some ⟨g, 0, none⟩) k cap) (css.take k) := by
  obtain ⟨cur, hh, hb, hn, hm, hs, ht, hl⟩ := h.blk
  have hf : k * sz + ([] : List Value).length ≤ cur.size := by
    rw [hs, List.length_nil, Nat.add_zero]
    exact Nat.mul_le_mul_right _ (by omega)
  refine h.firstOver k hk cur hh [] hf ?_
  rw [over_nil]
  simpa using hh
theorem OwnB.take {w : World} {base : Nat} {a : Option Addr} {n c : Nat} {l : List Int} (h : OwnB w base (.slice a n c) l) (k : Nat) (hk : k ≤ l.length) : OwnB w base (.slice a k c) (l.take k) := by
  have hn : l.length = n := by
    rcases h.2 with ⟨e, e2⟩ | ⟨g, cap, cur, e, _⟩
    · injection e with _ e3 _
      omega
    · injection e with _ e3 _
      exact e3.symm
  rcases h.2 with ⟨e, e2⟩ | ⟨g, cap, cur, e, _⟩
  · injection e with e1 e3 e4
    have hl : l = [] := List.length_eq_zero_iff.1 e2
    have hk0 : k = 0 := by omega
    subst hl
    subst hk0
    subst e1
    subst e4
    exact OwnB.nil _ _
  · injection e with e1 e3 e4
    subst e1
    have h2 := own_take h.rows k (by omega)
    rw [← List.map_take] at h2
    exact h2.octs
end Go.Proofs.YtnchjlimkgbfpaaGreatDoor

namespace Go.Proofs.YtnchjlimkgbfpaaGreatDoor
open Go.RowKit
set_option linter.unusedVariables false
set_option maxRecDepth 20000
set_option linter.unusedSimpArgs false
def IntsW (w : World) (v : Value) (l : List Int) : Prop := (∀ x ∈ l, In64 x) ∧ Rws 1 w v (l.map fun x => [Value.int .i64 x])
theorem IntsW.up {w w' : World} {v : Value} {l : List Int} (h : IntsW w v l) (hb : Below w.heap.size w w') : IntsW w' v l := ⟨h.1, h.2.up hb⟩
theorem IntsW.len {w : World} {v : Value} {l : List Int} (h : IntsW w v l) : ∃ a cap, v = .slice a l.length cap ∧ l.length ≤ cap ∧ cap ≤ maxLen := by
  obtain ⟨a, cap, e, h1, h2⟩ := h.2.len
  rw [List.length_map] at e h1
  exact ⟨a, cap, e, h1, h2⟩
theorem IntsW.at {w : World} {v : Value} {l : List Int} (h : IntsW w v l) (k : Nat) (hk : k < l.length) : ∃ b off cap, v = .slice (some ⟨b, off, none⟩) l.length cap ∧ w.cell? ⟨b, off + k, none⟩ = some (.int .i64 (l.getD k 0)) ∧ In64 (l.getD k 0) := by
  obtain ⟨b, off, cap, e, h1, h2, hc⟩ := h.2.at k (by rw [List.length_map]; exact hk)
  rw [List.length_map] at e
  have hr : (l.map fun x => [Value.int .i64 x]).getD k [] = [Value.int .i64 (l.getD k 0)] := by simp [List.getD, hk]
  rw [hr] at hc
  have c0 := hc 0 _ rfl
  simp only [Nat.mul_one, Nat.add_zero] at c0
  exact ⟨b, off, cap, e, c0, h.1 _ (by simp [List.getD, hk])⟩
end Go.Proofs.YtnchjlimkgbfpaaGreatDoor

namespace Go.Proofs.YtnchjlimkgbfpaaGreatDoor
open Go.RowKit
set_option linter.unusedVariables false
set_option maxRecDepth 20000
set_option linter.unusedSimpArgs false
abbrev ARow := Value × Ac
def arow (y : ARow) : List Value := [.int .i64 y.2.what, .string (strOfNums y.2.name), .string (strOfNums y.2.dest), y.1]
def ActsW (w : World) (v : Value) (l : List Ac) : Prop := ∃ m : List ARow, m.map (·.2) = l ∧ Rws 4 w v (m.map arow) ∧ ∀ y ∈ m, Octs w y.1 y.2.data ∧ okAc y.2
theorem ActsW.up {w w' : World} {v : Value} {l : List Ac} (h : ActsW w v l) (hb : Below w.heap.size w w') : ActsW w' v l := by
  obtain ⟨m, h1, h2, h3⟩ := h
  exact ⟨m, h1, h2.up hb, fun y hy => ⟨(h3 y hy).1.up hb, (h3 y hy).2⟩⟩
theorem ActsW.len {w : World} {v : Value} {l : List Ac} (h : ActsW w v l) : ∃ a cap, v = .slice a l.length cap ∧ l.length ≤ cap ∧ cap ≤ maxLen := by
  obtain ⟨m, rfl, h2, _⟩ := h
  obtain ⟨a, cap, e, h1, h2⟩ := h2.len
  rw [List.length_map] at e h1
  rw [List.length_map]
  exact ⟨a, cap, e, h1, h2⟩
def noAc : Ac := ⟨0, [], [], []⟩
theorem ActsW.at {w : World} {v : Value} {l : List Ac} (h : ActsW w v l) (k : Nat) (hk : k < l.length) : ∃ b off cap ad cd, v = .slice (some ⟨b, off, none⟩) l.length cap ∧
    w.cell? ⟨b, off + k * 4, none⟩ = some (.int .i64 (l.getD k noAc).what) ∧ w.cell? ⟨b, off + k * 4 + 1, none⟩ = some (.string (strOfNums (l.getD k noAc).name)) ∧ w.cell? ⟨b, off + k * 4 + 2, none⟩ = some (.string (strOfNums (l.getD k noAc).dest)) ∧ w.cell? ⟨b, off + k * 4 + 3, none⟩ = some (.slice ad (l.getD k noAc).data.length cd) ∧
    AcW w (.agg #[.int .i64 (l.getD k noAc).what, .string (strOfNums (l.getD k noAc).name), .string (strOfNums (l.getD k noAc).dest), .slice ad (l.getD k noAc).data.length cd]) (l.getD k noAc) := by
  obtain ⟨m, rfl, h2, h3⟩ := h
  rw [List.length_map] at hk ⊢
  obtain ⟨b, off, cap, e, _, _, hc⟩ := h2.at k (by rw [List.length_map]; exact hk)
  rw [List.length_map] at e
  have hr : (m.map arow).getD k [] = arow m[k] := by simp [List.getD, hk]
  have hr2 : (m.map (·.2)).getD k noAc = m[k].2 := by simp [List.getD, hk]
  rw [hr] at hc
  rw [hr2]
  have h4 := h3 m[k] (List.getElem_mem hk)
  obtain ⟨ad, cd, evd, _⟩ := h4.1.slice
  have c0 := hc 0 _ rfl
  have c1 := hc 1 _ rfl
  have c2 := hc 2 _ rfl
  have c3 := hc 3 _ rfl
  rw [evd] at c3 h4
  exact ⟨b, off, cap, ad, cd, e, c0, c1, c2, c3, _, rfl, h4.1, h4.2⟩
end Go.Proofs.YtnchjlimkgbfpaaGreatDoor

namespace Go.Proofs.YtnchjlimkgbfpaaGreatDoor
open Go.RowKit
set_option linter.unusedVariables false
set_option maxRecDepth 20000
set_option linter.unusedSimpArgs false
end Go.Proofs.YtnchjlimkgbfpaaGreatDoor

namespace Go.Proofs.YtnchjlimkgbfpaaGreatDoor
open Go.RowKit
set_option linter.unusedVariables false
set_option maxRecDepth 20000
set_option linter.unusedSimpArgs false
theorem OwnS.shape {w : World} {base B : Nat} {s : St} (h : OwnS w base B s) : ∃ af nf cf an nn cn as' ns cs', w.heap[B]? = some (.cells #[.int .i64 s.cap, .slice af nf cf, .slice an nn cn, .slice as' ns cs', .int .i64 s.next] 35) ∧ OwnV w base (.agg #[.int .i64 s.cap, .slice af nf cf, .slice an nn cn, .slice as' ns cs', .int .i64 s.next]) s := by
  obtain ⟨vf, vn, vs, hb, ov⟩ := h.take
  obtain ⟨a4, n4, c4, a5, n5, c5, a7, n7, c7, ev4⟩ := ov.shape
  simp at ev4
  obtain ⟨rfl, rfl, rfl⟩ := ev4
  exact ⟨_, _, _, _, _, _, _, _, _, hb, ov⟩
theorem OwnS.lt {w : World} {base B : Nat} {s : St} (h : OwnS w base B s) : B < w.heap.size := by
  obtain ⟨_, _, _, _, _, hb, _⟩ := h
  exact blk_lt hb
end Go.Proofs.YtnchjlimkgbfpaaGreatDoor

namespace Go.Proofs.YtnchjlimkgbfpaaGreatDoor
open Go.RowKit
set_option linter.unusedVariables false
set_option maxRecDepth 20000
set_option linter.unusedSimpArgs false
end Go.Proofs.YtnchjlimkgbfpaaGreatDoor

namespace Go.Proofs.YtnchjlimkgbfpaaGreatDoor
open Go.RowKit
set_option linter.unusedVariables false
set_option maxRecDepth 20000
set_option linter.unusedSimpArgs false
def BytesW (w : World) (v : Value) (l : List (List Int)) : Prop := ∃ m : List (Value × List Int), m.map (·.2) = l ∧ Rws 1 w v (m.map fun y => [y.1]) ∧ ∀ y ∈ m, Octs w y.1 y.2 ∧ y.2.length ≤ 140737488355328
def BoolsW (w : World) (v : Value) (l : List Bool) : Prop := Rws 1 w v (l.map fun b => [Value.bool b])
theorem BytesW.up {w w' : World} {v : Value} {l : List (List Int)} (h : BytesW w v l) (hb : Below w.heap.size w w') : BytesW w' v l := by
  obtain ⟨m, h1, h2, h3⟩ := h
  exact ⟨m, h1, h2.up hb, fun y hy => ⟨(h3 y hy).1.up hb, (h3 y hy).2⟩⟩
theorem BoolsW.up {w w' : World} {v : Value} {l : List Bool} (h : BoolsW w v l) (hb : Below w.heap.size w w') : BoolsW w' v l := Rws.up h hb
theorem BytesW.len {w : World} {v : Value} {l : List (List Int)} (h : BytesW w v l) : ∃ a cap, v = .slice a l.length cap ∧ l.length ≤ cap ∧ cap ≤ maxLen := by
  obtain ⟨m, rfl, h2, _⟩ := h
  obtain ⟨a, cap, e, h1, h2⟩ := h2.len
  rw [List.length_map] at e h1
  rw [List.length_map]
  exact ⟨a, cap, e, h1, h2⟩
theorem BoolsW.len {w : World} {v : Value} {l : List Bool} (h : BoolsW w v l) : ∃ a cap, v = .slice a l.length cap ∧ l.length ≤ cap ∧ cap ≤ maxLen := by
  obtain ⟨a, cap, e, h1, h2⟩ := Rws.len h
  rw [List.length_map] at e h1
  exact ⟨a, cap, e, h1, h2⟩
theorem BytesW.at {w : World} {v : Value} {l : List (List Int)} (h : BytesW w v l) (k : Nat) (hk : k < l.length) : ∃ b off cap ad cd, v = .slice (some ⟨b, off, none⟩) l.length cap ∧ w.cell? ⟨b, off + k, none⟩ = some (.slice ad (l.getD k []).length cd) ∧ Octs w (.slice ad (l.getD k []).length cd) (l.getD k []) ∧ (l.getD k []).length ≤ 140737488355328 := by
  obtain ⟨m, rfl, h2, h3⟩ := h
  rw [List.length_map] at hk ⊢
  obtain ⟨b, off, cap, e, _, _, hc⟩ := h2.at k (by rw [List.length_map]; exact hk)
  rw [List.length_map] at e
  have hr : (m.map fun y => [y.1]).getD k [] = [m[k].1] := by simp [List.getD, hk]
  have hr2 : (m.map (·.2)).getD k [] = m[k].2 := by simp [List.getD, hk]
  rw [hr] at hc
  rw [hr2]
  have h4 := h3 m[k] (List.getElem_mem hk)
  obtain ⟨ad, cd, evd, _⟩ := h4.1.slice
  have c0 := hc 0 _ rfl
  rw [Nat.mul_one, Nat.add_zero] at c0
  rw [evd] at c0 h4
  exact ⟨b, off, cap, ad, cd, e, c0, h4.1, h4.2⟩
theorem BoolsW.at {w : World} {v : Value} {l : List Bool} (h : BoolsW w v l) (k : Nat) (hk : k < l.length) : ∃ b off cap, v = .slice (some ⟨b, off, none⟩) l.length cap ∧ w.cell? ⟨b, off + k, none⟩ = some (.bool (l.getD k false)) := by
  obtain ⟨b, off, cap, e, _, _, hc⟩ := Rws.at h k (by rw [List.length_map]; exact hk)
  rw [List.length_map] at e
  have hr : (l.map fun b => [Value.bool b]).getD k [] = [.bool (l.getD k false)] := by simp [List.getD, hk]
  rw [hr] at hc
  have c0 := hc 0 _ rfl
  rw [Nat.mul_one, Nat.add_zero] at c0
  exact ⟨b, off, cap, e, c0⟩
theorem OwnS.keep {w w' : World} {base B : Nat} {s : St} {r : Option Nat} (h : OwnS w base B s) (hg : w.grownBy w' r) (hr : ∀ k, r = some k → k < base ∧ k ≠ B) : OwnS w' base B s := by
  obtain ⟨h0, vf, vn, vs, m, hb, hm, of, on, os, hap, hi1, hi2⟩ := h
  have ne : ∀ {e sz : Nat} {v : Value} {n : Nat} {xs : List Value}, w.ownsRow base e sz v n xs → v.ownBlock = none ∨ v.ownBlock ≠ r := by
    intro e sz v n xs ho
    cases hv : v.ownBlock with
    | none => exact .inl rfl
    | some g =>
      refine .inr fun q => ?_
      have := (ho.lt g hv).1
      have := (hr g q.symm).1
      omega
  refine ⟨h0, vf, vn, vs, m, blk_grown hb hg (fun q => (hr B q.symm).2 rfl), hm, of.far hg (ne of.1.2) (fun y hy => ne (of.2.1 y hy).1), on.far hg (ne on.2.2), os.far hg (ne os.2.2), hap, hi1, hi2⟩
end Go.Proofs.YtnchjlimkgbfpaaGreatDoor

namespace Go.Proofs.YtnchjlimkgbfpaaGreatDoor
open Go.RowKit Go.ChangeShapes Go.WideShapes
set_option linter.unusedVariables false
set_option maxRecDepth 20000
theorem Tryz.cells88 : Tryz.prog.cellsOf 88 = 1 := by kernel_rfl
theorem Tryz.cells5 : Tryz.prog.cellsOf 5 = 1 := by kernel_rfl
theorem Tryz.bytes5 : Tryz.prog.bytesOf 5 = 1 := by kernel_rfl
theorem pick_list {A : Type} (P : Nat → A → Prop) : ∀ n, (∀ i, i < n → ∃ p, P i p) → ∃ l : List A, l.length = n ∧ ∀ i p, l[i]? = some p → P i p
  | 0, _ => ⟨[], rfl, fun i p h => by simp at h⟩
  | n + 1, h => by
    obtain ⟨l, hl, hp⟩ := pick_list P n (fun i hi => h i (by omega))
    obtain ⟨p, hq⟩ := h n (by omega)
    refine ⟨l ++ [p], by simp [hl], fun i q hi => ?_⟩
    by_cases c : i < l.length
    · rw [List.getElem?_append_left c] at hi
      exact hp i q hi
    · rw [List.getElem?_append_right (by omega)] at hi
      have e : i - l.length = 0 := by
        rcases Nat.eq_zero_or_pos (i - l.length) with h | h
        · exact h
        · rw [List.getElem?_eq_none (by simp; omega)] at hi; cases hi
      rw [e] at hi
      simp at hi
      subst hi
      obtain rfl : i = n := by omega
      exact hq
theorem weightsAll_mem {H : Type} {P : Program} {t : TypeId} : ∀ {l : List (DataW H)} {d : DataW H}, d ∈ l → ∀ n ∈ d.weights P t, n ∈ DataW.weightsAll P t l
  | x :: r, d, hd, n, hn => by
    simp only [DataW.weightsAll, List.mem_append]
    rcases List.mem_cons.1 hd with rfl | hd
    · exact .inl hn
    · exact .inr (weightsAll_mem hd n hn)
theorem arg_octs {W : World} {x : Addr} {len cap : Nat} {zs : List Int} (hl : len ≤ cap) (hm : cap ≤ maxLen) (hz : zs.length = cap)
    (hcell : ∀ i, i < zs.length → W.cell? (x.add i) = some (.int .u8 (zs.getD i 0))) (hwz : ∀ n ∈ zs, (Lit.int .u8 n).wf = true) : Octs W (.slice (some x) len cap) (zs.take len) := by
  have hlen : (zs.take len).length = len := by rw [List.length_take]; omega
  refine ⟨fun y hy => bounds_u8 (hwz y (List.mem_of_mem_take hy)), ?_⟩
  by_cases h0 : len = 0
  · subst h0
    exact .inl ⟨by simp, _, _, rfl, fun h => by cases h⟩
  · obtain ⟨b, off, spot⟩ := x
    have hc := hcell 0 (by omega)
    have hspot : spot = none := by simpa [Addr.add] using World.cell?_spot hc
    subst hspot
    refine .inr ⟨?_, b, off, cap, by rw [hlen], by omega, hm, fun j y hj => ?_⟩
    · intro e
      rw [e] at hlen
      simp at hlen
      omega
    · rw [List.getElem?_take] at hj
      split at hj
      · have hjl : j < zs.length := by omega
        have h := hcell j hjl
        rw [Addr.add_lit] at h
        rw [h]
        simp [List.getD, hj]
      · cases hj
theorem open_octs {H : Type} {enc : TypeId × Value → H} {W : World} {fuel : Nat} {cs : List Value} {x : DataW H × List MemPlace} (h : DataW.trod enc Tryz.prog W 0 (fun _ => true) true fuel 88 cs = some x) (hw : ∀ n ∈ x.1.weights Tryz.prog 88, n ≤ reachBytes) :
    ∃ y : Value × List Int, cs = [y.1] ∧ Octs W y.1 y.2 ∧ y.2.length ≤ 140737488355328 := by
  rcases open_ints Tryz.underlying88 Tryz.underlying5 Tryz.cells5 h with ⟨hcs, _⟩ | ⟨a, l, c, zs, hcs, _, hl, hm, hz, hx, hcell, hwz⟩
  · exact ⟨(.slice none 0 0, []), hcs, ⟨(fun x hx => by cases hx), .inl ⟨rfl, _, _, rfl, fun _ => rfl⟩⟩, by simp⟩
  · have hz' : zs.length = c := by simpa using hz
    refine ⟨(.slice (some a) l c, zs.take l), hcs, arg_octs hl hm hz' hcell hwz, ?_⟩
    rw [hx] at hw
    have := hw ((lits .u8 (zs.take l)).length + (lits .u8 (zs.drop l)).length * 1) (by
      simp [DataW.weights, Tryz.underlying88, Tryz.bytes5]
      exact .inl rfl)
    simp only [lits, List.length_map, reachBytes] at this
    show (zs.take l).length ≤ 140737488355328
    omega
end Go.Proofs.YtnchjlimkgbfpaaGreatDoor
