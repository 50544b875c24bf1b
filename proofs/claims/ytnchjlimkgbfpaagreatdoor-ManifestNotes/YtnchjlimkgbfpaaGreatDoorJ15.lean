/- The texts R1, R2, R3, in this order. -/
import Derived.Test.YtnchjlimkgbfpaaGreatDoorJ14

namespace Go.Proofs.YtnchjlimkgbfpaaGreatDoor
open Go.RowKit
set_option linter.unusedVariables false
set_option maxRecDepth 20000
set_option linter.unusedSimpArgs false
def z0 : St := ⟨0, [], [], [], 0⟩
theorem OwnV.zero (w : World) (base : Nat) (c n : Int) (hc : In64 c) (hn : In64 n) : OwnV w base (.agg #[.int .i64 c, .slice none 0 0, .slice none 0 0, .slice none 0 0, .int .i64 n]) ⟨c, [], [], [], n⟩ :=
  ⟨_, _, _, [], rfl, rfl, ⟨OwnR.nil _ _ _ _, (fun y hy => by cases hy), List.Pairwise.nil⟩, OwnN.nil _ _ _, OwnN.nil _ _ _, .inl rfl, hc, hn⟩
theorem in64_0 : In64 0 := by unfold In64; omega
theorem results_state1 {fn : Func} {r k : Nat} (h : fn.results = #[.cell r 35, .tmp k]) (tmps : Array Value) (w : World) {N : Nat} {a b c d e x : Value} (ht : tmps.getD r undef = .pointer (some ⟨N, 0, none⟩)) (hx : tmps.getD k undef = x)
    (hc : w.heap[N]? = some (.cells #[a, b, c, d, e] 35)) : (results fn tmps).run Tryz.prog w = .ok (.tuple #[.agg #[a, b, c, d, e], x]) w := by
  have c0 := blk_cell hc 0 a rfl
  have c1 := blk_cell hc 1 b rfl
  have c2 := blk_cell hc 2 c rfl
  have c3 := blk_cell hc 3 d rfl
  have c4 := blk_cell hc 4 e rfl
  have ht' : tmps[r]?.getD undef = .pointer (some ⟨N, 0, none⟩) := by simpa using ht
  have hx' : tmps[k]?.getD undef = x := by simpa using hx
  simp only [results, h]
  simp [ht', hx', go_sem, c0, c1, c2, c3, c4]
def newP (n : Int) : St × Int := if n < 0 ∨ 16777216 < n then (z0, 4) else (⟨n, [], [], [], 1⟩, 0)
theorem new_any (n : Int) (hn : In64 n) (w : World) :
    Calls Tryz.prog 24 #[.int .i64 n] w fun e w' => ∃ v', e = .returned (.tuple #[v', .int .i64 (newP n).2]) ∧ OwnV w' w.heap.size v' (newP n).1 ∧ Below w.heap.size w w' := by
  by_cases c1 : n < 0
  · have HR : Hid (newP n = (z0, 4)) := by unfold Hid newP; rw [if_pos (.inl c1)]
    go_enter Tryz.func24, Tryz.ntmps24
    go_wp2
    refine bodyPost_ret (results_state1 rfl _ _ rfl rfl (blk_new w _)) rfl ?_
    rw [HR.out]
    exact ⟨_, rfl, OwnV.zero _ _ 0 0 in64_0 in64_0, up_al (Below.refl _ _) _⟩
  · by_cases c2 : 16777216 < n
    · have HR : Hid (newP n = (z0, 4)) := by unfold Hid newP; rw [if_pos (.inr c2)]
      go_enter Tryz.func24, Tryz.ntmps24
      go_wp2
      refine bodyPost_ret (results_state1 rfl _ _ rfl rfl (blk_new w _)) rfl ?_
      rw [HR.out]
      exact ⟨_, rfl, OwnV.zero _ _ 0 0 in64_0 in64_0, up_al (Below.refl _ _) _⟩
    · have HR : Hid (newP n = (⟨n, [], [], [], 1⟩, 0)) := by unfold Hid newP; rw [if_neg (fun h => h.elim c1 c2)]
      go_enter Tryz.func24, Tryz.ntmps24
      go_wp2
      refine bodyPost_ret (results_state1 rfl _ _ rfl rfl (blk_new w _)) rfl ?_
      rw [HR.out]
      exact ⟨_, rfl, OwnV.zero _ _ n 1 hn (by unfold In64; omega), up_al (Below.refl _ _) _⟩
theorem OwnS.take {w : World} {base B : Nat} {s : St} (h : OwnS w base B s) : ∃ vf vn vs, w.heap[B]? = some (.cells #[.int .i64 s.cap, vf, vn, vs, .int .i64 s.next] 35) ∧ OwnV w base (.agg #[.int .i64 s.cap, vf, vn, vs, .int .i64 s.next]) s := by
  obtain ⟨_, vf, vn, vs, m, hb, hm, of, on, os, hap, hi1, hi2⟩ := h
  exact ⟨vf, vn, vs, hb, vf, vn, vs, m, rfl, hm, of, on, os, hap, hi1, hi2⟩
theorem OwnV.put {w : World} {base : Nat} {s : St} {a b c d e : Value} (h : OwnV w base (.agg #[a, b, c, d, e]) s) {N : Nat} {x0 x1 x2 x3 x4 : Value} (hb : w.heap[N]? = some (.cells #[x0, x1, x2, x3, x4] 35)) :
    OwnS (set5 w N a b c d e) base N s ∧ OwnV (set5 w N a b c d e) base (.agg #[a, b, c, d, e]) s := by
  obtain ⟨vf, vn, vs, m, ev, hm, of, on, os, hap, hi1, hi2⟩ := h
  have g5 := set5_grown w N a b c d e
  have b5 := set5_blk hb a b c d e
  simp at ev
  obtain ⟨rfl, rfl, rfl, rfl, rfl⟩ := ev
  have of5 := of.far g5 (own_blk_ne of.1.2 hb (by decide)) (fun y hy => own_blk_ne (of.2.1 y hy).1 hb (by decide))
  have on5 := on.far g5 (own_blk_ne on.2.2 hb (by decide))
  have os5 := os.far g5 (own_blk_ne os.2.2 hb (by decide))
  exact ⟨⟨trivial, _, _, _, m, b5, hm, of5, on5, os5, hap, hi1, hi2⟩, ⟨_, _, _, m, rfl, hm, of5, on5, os5, hap, hi1, hi2⟩⟩
theorem OwnV.shape {w : World} {base : Nat} {v : Value} {s : St} (h : OwnV w base v s) : ∃ af nf cf an nn cn as' ns cs', v = .agg #[.int .i64 s.cap, .slice af nf cf, .slice an nn cn, .slice as' ns cs', .int .i64 s.next] := by
  obtain ⟨vf, vn, vs, m, rfl, hm, of, on, os, hap, hi1, hi2⟩ := h
  obtain ⟨a1, c1, e1, _, _⟩ := (NamesW.own on).len
  obtain ⟨a2, c2, e2, _, _⟩ := (NamesW.own os).len
  obtain ⟨a3, c3, e3, _, _⟩ := (Rws.own of.1).len
  subst e1
  subst e2
  subst e3
  exact ⟨_, _, _, _, _, _, _, _, _, rfl⟩
theorem StW.shape {w : World} {v : Value} {s : St} (h : StW w v s) : ∃ af nf cf an nn cn as' ns cs', v = .agg #[.int .i64 s.cap, .slice af nf cf, .slice an nn cn, .slice as' ns cs', .int .i64 s.next] := by
  obtain ⟨vf, vn, vs, rfl, hf, hn, hs, hi1, hi2⟩ := h
  obtain ⟨a1, c1, e1, _, _⟩ := hn.len
  obtain ⟨a2, c2, e2, _, _⟩ := hs.len
  obtain ⟨a3, c3, e3, _, _⟩ := hf.len
  subst e1
  subst e2
  subst e3
  exact ⟨_, _, _, _, _, _, _, _, _, rfl⟩
end Go.Proofs.YtnchjlimkgbfpaaGreatDoor

namespace Go.Proofs.YtnchjlimkgbfpaaGreatDoor
open Go.RowKit
set_option linter.unusedVariables false
set_option maxRecDepth 20000
set_option linter.unusedSimpArgs false
def readP (s : St) (name : List Int) : List Int × Int := if checkP s then (if hasF s name then ((fileD s (idxF s name)).2.1, 0) else ([], 71)) else ([], 9)
set_option maxHeartbeats 2000000 in
set_option maxRecDepth 20000 in
theorem read_any (s : St) (name : List Int) (hna : OctL name) (v : Value) (w : World) (hv : StW w v s) (hl : s.names.length + s.safe.length ≤ 9223372036854775807) :
    Calls Tryz.prog 50 #[v, .string (strOfNums name)] w fun e w' => ∃ v', e = .returned (.tuple #[v', .int .i64 (readP s name).2]) ∧ OwnB w' w.heap.size v' (readP s name).1 ∧ OctL (readP s name).1 ∧ Below w.heap.size w w' := by
  obtain ⟨af, nf, cf, an, nn, cn, as', ns, cs', ev⟩ := hv.shape
  subst ev
  obtain ⟨wx, hwx⟩ : ∃ wx, wx = w.alloc (.cells #[.int .i64 s.cap, .slice af nf cf, .slice an nn cn, .slice as' ns cs', .int .i64 s.next] 35) := ⟨_, rfl⟩
  have HX : Hid (w.alloc (.cells #[.int .i64 s.cap, .slice af nf cf, .slice an nn cn, .slice as' ns cs', .int .i64 s.next] 35) = wx) := hwx.symm
  have bx : Hid (BoxW w (.cells #[.int .i64 s.cap, .slice af nf cf, .slice an nn cn, .slice as' ns cs', .int .i64 s.next] 35) wx) := by rw [hwx]; exact BoxW.start _ _
  have HS : Hid (StW w (.agg #[.int .i64 s.cap, .slice af nf cf, .slice an nn cn, .slice as' ns cs', .int .i64 s.next]) s) := hv
  clear hv hwx
  go_enter Tryz.func50, Tryz.ntmps50
  go_upto_region 1 with fail
  rw [HX.out]
  clear HX
  have q0 := bx.out.cell 0 _ rfl
  have q1 := bx.out.cell 1 _ rfl
  have q2 := bx.out.cell 2 _ rfl
  have q3 := bx.out.cell 3 _ rfl
  have q4 := bx.out.cell 4 _ rfl
  have hc := check_any s _ wx (HS.out.up bx.out.up) hl
  cases hchk : checkP s with
  | false =>
    have HR : Hid (readP s name = ([], 9)) := by unfold Hid readP; rw [hchk]; rfl
    rw [hchk] at hc
    have he : errOf false = 9 := rfl
    rw [he] at hc
    clear hchk he
    go_wp2_with fail
    refine hc.mono ?_
    rintro e w1 ⟨rfl, u1⟩
    have up1 : Hid (Below w.heap.size w w1) := up_trans bx.out.up u1
    clear u1 hc q0 q1 q2 q3 q4
    go_wp2_with fail
    go_ret2
    rw [HR.out]
    exact ⟨_, rfl, OwnB.nil _ _, (fun x hx => by cases hx), up1.out⟩
  | true =>
    have HSo : Hid (Sound s) := check_sound hchk
    have HR : Hid (readP s name = if hasF s name then ((fileD s (idxF s name)).2.1, 0) else ([], 71)) := by unfold Hid readP; rw [hchk]; rfl
    rw [hchk] at hc
    have he : errOf true = 0 := rfl
    rw [he] at hc
    clear hchk he
    go_wp2_with fail
    refine hc.mono ?_
    rintro e w1 ⟨rfl, u1⟩
    have bx1 : Hid (BoxW w (.cells #[.int .i64 s.cap, .slice af nf cf, .slice an nn cn, .slice as' ns cs', .int .i64 s.next] 35) w1) := bx.out.step u1
    clear u1 hc q0 q1 q2 q3 q4
    have q0 := bx1.out.cell 0 _ rfl
    have q1 := bx1.out.cell 1 _ rfl
    have q2 := bx1.out.cell 2 _ rfl
    have q3 := bx1.out.cell 3 _ rfl
    have q4 := bx1.out.cell 4 _ rfl
    have hst := HS.out.up bx1.out.up
    obtain ⟨vf, vn, vs, ev, hf, hn, hs, hi1, hi2⟩ := hst
    simp at ev
    obtain ⟨rfl, rfl, rfl⟩ := ev
    have HF : Hid (FilesW w1 (.slice af nf cf) s.files) := hf
    have hcf := file_any s.files s.names name hna (.int .i64 s.cap) _ _ (.slice as' ns cs') (.int .i64 s.next) w1 hf hn (by have := HSo.out.1.1; omega) (by have := HSo.out.1.2.1; omega) HSo.out.1.2.2.2.2 HSo.out.1.2.2.2.1
    have eh : (thereN s.names name && thereF s.files (s.names.getD (rankN s.names name) ([], 0)).2) = hasF s name := rfl
    rw [eh] at hcf
    clear hf hn hs hi1 hi2 eh
    cases hth : hasF s name with
    | false =>
      have HR2 : Hid (readP s name = ([], 71)) := by unfold Hid; rw [HR.out, hth]; rfl
      rw [hth] at hcf
      clear hth
      generalize (if thereN s.names name = true then ((rankF s.files (s.names.getD (rankN s.names name) ([], 0)).2 : Nat) : Int) else 0) = ix at hcf
      go_wp2_with fail
      refine hcf.mono ?_
      rintro e w2 ⟨rfl, u2⟩
      have up2 : Hid (Below w.heap.size w w2) := up_trans bx1.out.up u2
      clear u2 hcf q0 q1 q2 q3 q4
      go_wp2_with fail
      go_ret2
      rw [HR2.out]
      exact ⟨_, rfl, OwnB.nil _ _, (fun x hx => by cases hx), up2.out⟩
    | true =>
      have hlt := idx_lt hth
      have HR2 : Hid (readP s name = ((fileD s (idxF s name)).2.1, 0)) := by unfold Hid; rw [HR.out, hth]; rfl
      have ei : (if thereN s.names name = true then ((rankF s.files (s.names.getD (rankN s.names name) ([], 0)).2 : Nat) : Int) else 0) = ((idxF s name : Nat) : Int) := by
        have h1 : thereN s.names name = true := by
          unfold hasF at hth
          rw [Bool.and_eq_true] at hth
          exact hth.1
        rw [if_pos h1]
        rfl
      rw [hth, ei] at hcf
      clear hth ei
      generalize idxF s name = i at *
      have hii : (i : Int) < (s.files.length : Int) := by omega
      go_wp2_with fail
      refine hcf.mono ?_
      rintro e w2 ⟨rfl, u2⟩
      have bx2 : Hid (BoxW w (.cells #[.int .i64 s.cap, .slice af nf cf, .slice an nn cn, .slice as' ns cs', .int .i64 s.next] 35) w2) := bx1.out.step u2
      have HF2 : Hid (FilesW w2 (.slice af nf cf) s.files) := HF.out.up u2
      clear u2 hcf q0 q1 q2 q3 q4
      have q1 := bx2.out.cell 1 _ rfl
      obtain ⟨b, off, cap', u, e, _, _, c0, c1, c2, ho, hdl, _⟩ := HF2.out.at i hlt
      simp at e
      obtain ⟨rfl, rfl, rfl⟩ := e
      have HO : Hid (Octs w2 u (fileD s i).2.1 ∧ (fileD s i).2.1.length ≤ 140737488355328) := ⟨ho, hdl⟩
      clear ho hdl c0 c2
      obtain ⟨au, cu, eu, _⟩ := HO.out.1.slice
      subst eu
      go_wp2_with fail
      refine (freshB_any _ _ w2 HO.out.1 HO.out.2).mono ?_
      rintro e w3 ⟨v3, rfl, ob3, u3⟩
      have HO3 : Hid (OwnB w3 w.heap.size v3 (fileD s i).2.1 ∧ Below w.heap.size w w3) := ⟨ob3.mono bx2.out.up.size, up_trans bx2.out.up u3⟩
      clear ob3 u3 q1 c1
      go_wp2_with fail
      go_ret2
      rw [HR2.out]
      exact ⟨_, rfl, HO3.out.1, HO.out.1.1, HO3.out.2⟩
def listP (s : St) : List (List Int) × Int := if checkP s then (s.names.map (·.1), 0) else ([], 9)
def srow (t : List Int) : List Value := [.string (strOfNums t)]
theorem Tryz.info9 : (Tryz.prog.info? 9).map (fun i => (i.zero, i.size, i.bytes)) = some (some (.string ⟨#[]⟩), 1, 16) := by kernel_rfl
set_option maxHeartbeats 2000000 in
set_option maxRecDepth 20000 in
theorem list_any (s : St) (v : Value) (w : World) (hv : StW w v s) (hl : s.names.length + s.safe.length ≤ 9223372036854775807) :
    Calls Tryz.prog 33 #[v] w fun e w' => ∃ v', e = .returned (.tuple #[v', .int .i64 (listP s).2]) ∧ OwnR w' w.heap.size 9 1 v' ((listP s).1.map srow) ∧ Below w.heap.size w w' := by
  obtain ⟨af, nf, cf, an, nn, cn, as', ns, cs', ev⟩ := hv.shape
  subst ev
  obtain ⟨wx, hwx⟩ : ∃ wx, wx = w.alloc (.cells #[.int .i64 s.cap, .slice af nf cf, .slice an nn cn, .slice as' ns cs', .int .i64 s.next] 35) := ⟨_, rfl⟩
  have HX : Hid (w.alloc (.cells #[.int .i64 s.cap, .slice af nf cf, .slice an nn cn, .slice as' ns cs', .int .i64 s.next] 35) = wx) := hwx.symm
  have bx : Hid (BoxW w (.cells #[.int .i64 s.cap, .slice af nf cf, .slice an nn cn, .slice as' ns cs', .int .i64 s.next] 35) wx) := by rw [hwx]; exact BoxW.start _ _
  have HS : Hid (StW w (.agg #[.int .i64 s.cap, .slice af nf cf, .slice an nn cn, .slice as' ns cs', .int .i64 s.next]) s) := hv
  clear hv hwx
  go_enter Tryz.func33, Tryz.ntmps33
  go_upto_region 1 with fail
  rw [HX.out]
  clear HX
  have q0 := bx.out.cell 0 _ rfl
  have q1 := bx.out.cell 1 _ rfl
  have q2 := bx.out.cell 2 _ rfl
  have q3 := bx.out.cell 3 _ rfl
  have q4 := bx.out.cell 4 _ rfl
  have hc := check_any s _ wx (HS.out.up bx.out.up) hl
  cases hchk : checkP s with
  | false =>
    have HR : Hid (listP s = ([], 9)) := by unfold Hid listP; rw [hchk]; rfl
    rw [hchk] at hc
    have he : errOf false = 9 := rfl
    rw [he] at hc
    clear hchk he
    go_wp2_with fail
    refine hc.mono ?_
    rintro e w1 ⟨rfl, u1⟩
    have up1 : Hid (Below w.heap.size w w1) := up_trans bx.out.up u1
    clear u1 hc q0 q1 q2 q3 q4
    go_wp2_with fail
    go_ret2
    rw [HR.out]
    exact ⟨_, rfl, OwnR.nil _ _ _ _, up1.out⟩
  | true =>
    have HSo : Hid (Sound s) := check_sound hchk
    have HR : Hid (listP s = (s.names.map (·.1), 0)) := by unfold Hid listP; rw [hchk]; rfl
    rw [hchk] at hc
    have he : errOf true = 0 := rfl
    rw [he] at hc
    clear hchk he
    go_wp2_with fail
    refine hc.mono ?_
    rintro e w1 ⟨rfl, u1⟩
    have bx1 : Hid (BoxW w (.cells #[.int .i64 s.cap, .slice af nf cf, .slice an nn cn, .slice as' ns cs', .int .i64 s.next] 35) w1) := bx.out.step u1
    clear u1 hc q0 q1 q2 q3 q4
    have q2 := bx1.out.cell 2 _ rfl
    have hst := HS.out.up bx1.out.up
    obtain ⟨vf, vn, vs, ev, hf, hn, hs, hi1, hi2⟩ := hst
    simp at ev
    obtain ⟨rfl, rfl, rfl⟩ := ev
    obtain ⟨x1, x2, en, _, _⟩ := hn.len
    injection en with en1 en2 en3
    subst en2
    clear en1 en3
    have HN : Hid (NamesW w1 (.slice an s.names.length cn) s.names) := hn
    have hln := HSo.out.1.2.1
    clear hf hn hs hi1 hi2
    go_wp2_with fail
    clear q2
    go_loopw [5, 16] (fun vb i wr => ∃ k : Nat, k ≤ s.names.length ∧ i = .int .i64 k ∧ Hid (OwnR wr w1.heap.size 9 1 vb (((s.names.take k).map (·.1)).map srow)) ∧ Hid (Below w1.heap.size w1 wr)) (fun _ i _ => s.names.length - (intOf i).toNat)
    case atStart => exact ⟨0, Nat.zero_le _, rfl, OwnR.nil _ _ _ _, Below.refl _ _⟩
    case round =>
      obtain ⟨k, hk, rfl, HO, up⟩ := hrel
      by_cases hlt : k < s.names.length
      · have hlt' : (k : Int) < (s.names.length : Int) := by omega
        obtain ⟨b, off, cap', e, _, _, c0, c1, ho, _, hi'⟩ := (HN.out.up up.out).at k hlt
        simp at e
        obtain ⟨rfl, rfl⟩ := e
        have HT : Hid (s.names.take (k + 1) = s.names.take k ++ [s.names.getD k ([], 0)]) := take_snoc s.names k _ hlt
        have HKl : Hid ((((s.names.take k).map (·.1)).map srow).length = k) := by simp [Hid]; omega
        generalize s.names.getD k ([], 0) = y at *
        obtain ⟨ys, yi⟩ := y
        simp only at c0 c1 HT
        have hsz1 := bx1.out.up.size
        have hsz2 := up.out.size
        obtain ⟨vl, cl, ev5, _, _⟩ := (Rws.own HO.out).len
        subst ev5
        rw [HKl.out] at HO ⊢
        have HOx : Hid (OwnR (wr.alloc (.cells #[.string (strOfNums ys), .int .i64 yi] 146)) w1.heap.size 9 1 (.slice vl k cl) (((s.names.take k).map (·.1)).map srow)) := HO.out.up (up_al (Below.refl _ _) _)
        go_wp2_with (at_builtin; refine wpList_append_row (wr.alloc (.cells #[.string (strOfNums ys), .int .i64 yi] 146)) rfl (.tmp 20) (.tmp 23) 62 9 (.string ⟨#[]⟩) 1 16 rfl Tryz.underlying62 Tryz.info9 rfl (by decide) w1.heap.size (.slice vl k cl) _ rfl HOx.out (srow ys) _ (wr.heap.size + 1) ?n1 rfl rfl rfl ?n2 ?n3 ?n4 ?n5 ?_)
        try case n1 => ((try simp))
        try case n2 => (intro u hu; simp [srow] at hu; subst hu; rfl)
        try case n3 => ((try rw [HKl.out]); omega)
        try case n4 => ((try rw [HKl.out]); unfold maxLen; omega)
        try case n5 => ((try simp); omega)
        intro v6 w6 o6 b6
        have HO6 : Hid (OwnR w6 w1.heap.size 9 1 v6 (((s.names.take (k + 1)).map (·.1)).map srow)) := by
          unfold Hid
          rw [HT.out, List.map_append, List.map_append]
          simpa using o6
        have HU6 : Hid (Below w1.heap.size w1 w6) := (up_al up.out _).trans b6
        clear o6 b6
        go_wp2_with fail
        exact ⟨⟨k + 1, by omega, by go_num, HO6, HU6⟩, by simp [intOf]; omega⟩
      · have hlt' : ¬ (k : Int) < (s.names.length : Int) := by omega
        obtain rfl : k = s.names.length := by omega
        rw [List.take_length] at HO
        have HO6 := HO
        go_wp2_with fail
        go_ret2
        rw [HR.out]
        exact ⟨_, rfl, HO6.out.mono bx1.out.up.size, up_trans bx1.out.up up.out⟩
end Go.Proofs.YtnchjlimkgbfpaaGreatDoor

namespace Go.Proofs.YtnchjlimkgbfpaaGreatDoor
open Go.RowKit
set_option linter.unusedVariables false
set_option maxRecDepth 20000
set_option linter.unusedSimpArgs false
def leftN (f : Int × List Int × Int) (more : Int) : Int := f.2.2 + min (max more 0) ((f.2.1.length : Int) - f.2.2)
def cutF (f : Int × List Int × Int) (more : Int) : Int × List Int × Int := (f.1, f.2.1.take (leftN f more).toNat, leftN f more)
theorem left_le (f : Int × List Int × Int) (more : Int) (h0 : 0 ≤ f.2.2) (h1 : f.2.2 ≤ (f.2.1.length : Int)) : f.2.2 ≤ leftN f more ∧ leftN f more ≤ (f.2.1.length : Int) := by
  unfold leftN
  omega
theorem own_take {w : World} {base : Nat} {e : TypeId} {sz g n cap : Nat} {css : List (List Value)} (h : OwnR w base e sz (.slice (some ⟨g, 0, none⟩) n cap) css) (k : Nat) (hk : k ≤ n) : OwnR w base e sz (.slice (some ⟨g, 0, none⟩) k cap) (css.take k) := by
  obtain ⟨cur, hh, hb, hn, hm, hs, ht, hl⟩ := h.blk
  have hf : k * sz + ([] : List Value).length ≤ cur.size := by
    rw [hs, List.length_nil, Nat.add_zero]
    exact Nat.mul_le_mul_right _ (by omega)
  refine h.firstOver k hk cur hh [] hf ?_
  rw [over_nil]
  simpa using hh
theorem OwnB.take {w : World} {base : Nat} {a : Option Addr} {n c : Nat} {l : List Int} (h : OwnB w base (.slice a n c) l) (k : Nat) (hk : k ≤ l.length) : OwnB w base (.slice a k c) (l.take k) := by
  have hn : l.length = n := by
    rcases h.2 with ⟨e, e2⟩ | ⟨g, cap, cur, e, _⟩
    · injection e with _ e3 _
      omega
    · injection e with _ e3 _
      exact e3.symm
  rcases h.2 with ⟨e, e2⟩ | ⟨g, cap, cur, e, _⟩
  · injection e with e1 e3 e4
    have hl : l = [] := List.length_eq_zero_iff.1 e2
    have hk0 : k = 0 := by omega
    subst hl
    subst hk0
    subst e1
    subst e4
    exact OwnB.nil _ _
  · injection e with e1 e3 e4
    subst e1
    have h2 := own_take h.rows k (by omega)
    rw [← List.map_take] at h2
    exact h2.octs
theorem cellset (w : World) (a : Addr) (u : Value) {v : Value} (h : w.cell? a = some v) : (w.setCell a u).cell? a = some u := World.cell?_setCell_same (h := h) ..
theorem frozenset (w : World) (g o : Nat) (b : Addr) (u : Value) : (w.setCell ⟨g, o, none⟩ u).frozen? b = w.frozen? b := World.frozen?_setCells g [u] o w b
set_option maxHeartbeats 2000000 in
theorem cut_any (base g n c i : Nat) (m : List FRow) (more : Int) (hmo : In64 more) (w : World) (h : OwnF w base (.slice (some ⟨g, 0, none⟩) n c) m) (hn : m.length = n) (hi : i < n) (h0 : 0 ≤ (m.getD i noF).2.2.2) (h1 : (m.getD i noF).2.2.2 ≤ ((m.getD i noF).2.2.1.length : Int)) :
    Calls Tryz.prog 106 #[.pointer (some ⟨g, i * 3, none⟩), .int .i64 more] w fun e w' => ∃ v', e = .returned (.tuple #[]) ∧ OwnF w' base (.slice (some ⟨g, 0, none⟩) n c) (m.set i (v', cutF (m.getD i noF).2 more)) ∧ w.grownBy w' (some g) := by
  have him : i < m.length := by omega
  have hmem : m.getD i noF ∈ m := by simp [List.getD, him]
  obtain ⟨ho, hok⟩ := h.2.1 _ hmem
  obtain ⟨au, cu, eu, _⟩ := (Octs.own ho hok.1).slice
  obtain ⟨b, off, cap, e, _, _, hc⟩ := (Rws.own h.1).at i (by rw [List.length_map]; exact him)
  rw [List.length_map] at e
  simp at e
  obtain ⟨⟨rfl, rfl⟩, _, _⟩ := e
  have hr : (m.map frow).getD i [] = frow (m.getD i noF) := by simp [List.getD, him]
  rw [hr] at hc
  have c1 := hc 1 _ rfl
  have c2 := hc 2 _ rfl
  simp only [Nat.zero_add, frow] at c1 c2
  have fz : ∀ q, w.frozen? ⟨g, q, none⟩ = false := by
    intro q
    obtain ⟨cur, hh, _⟩ := h.1.blk
    exact blk_frozen hh q
  have f1 := fz (i * 3 + 1)
  have f2 := fz (i * 3 + 2)
  have hll := left_le (m.getD i noF).2 more h0 h1
  have hdl := hok.2.1
  obtain ⟨lf, hlf⟩ : ∃ lf, lf = (leftN (m.getD i noF).2 more).toNat := ⟨_, rfl⟩
  have elf : leftN (m.getD i noF).2 more = (lf : Int) := by omega
  have hlfl : lf ≤ (m.getD i noF).2.2.1.length := by omega
  have s1 := h.sync hn i hi (lf : Int) (by unfold In64; omega)
  have HF : Hid (OwnF ((w.setCell ⟨g, i * 3 + 2, none⟩ (.int .i64 (lf : Int))).setCell ⟨g, i * 3 + 1, none⟩ (.slice au lf cu)) base (.slice (some ⟨g, 0, none⟩) n c) (m.set i (.slice au lf cu, cutF (m.getD i noF).2 more)) ∧ w.grownBy ((w.setCell ⟨g, i * 3 + 2, none⟩ (.int .i64 (lf : Int))).setCell ⟨g, i * 3 + 1, none⟩ (.slice au lf cu)) (some g)) := by
    refine ⟨?_, grown_trans (grown_set w ⟨g, i * 3 + 2, none⟩ _) (grown_set _ ⟨g, i * 3 + 1, none⟩ _)⟩
    have g1 := grown_set w ⟨g, i * 3 + 2, none⟩ (.int .i64 (lf : Int))
    have ho1 : OwnB (w.setCell ⟨g, i * 3 + 2, none⟩ (.int .i64 (lf : Int))) base (.slice au (m.getD i noF).2.2.1.length cu) (m.getD i noF).2.2.1 := by
      rw [← eu]
      exact ho.far g1 (own_own_ne ho h.1.2 (by decide))
    have hs := s1.data (by simpa using hn) i hi (ho1.take lf hlfl) (grown_refl _ _) ?_ ⟨fun x hx => hok.1 x (List.mem_of_mem_take hx), by rw [List.length_take]; omega⟩
    · have e1 : (m.set i ((m.getD i noF).1, (m.getD i noF).2.1, (m.getD i noF).2.2.1, (lf : Int))).getD i noF = ((m.getD i noF).1, (m.getD i noF).2.1, (m.getD i noF).2.2.1, (lf : Int)) := by simp [List.getD, him]
      rw [e1] at hs
      simp only [List.set_set] at hs
      have e2 : cutF (m.getD i noF).2 more = ((m.getD i noF).2.1, (m.getD i noF).2.2.1.take lf, (lf : Int)) := by
        unfold cutF
        rw [elf]
        simp
      rw [e2]
      exact hs
    · have e1 : (m.set i ((m.getD i noF).1, (m.getD i noF).2.1, (m.getD i noF).2.2.1, (lf : Int))).getD i noF = ((m.getD i noF).1, (m.getD i noF).2.1, (m.getD i noF).2.2.1, (lf : Int)) := by simp [List.getD, him]
      rw [e1]
      refine .inl ?_
      simp only
      rw [eu]
      cases au <;> rfl
  have hlv : (m.getD i noF).2.2.2 + min (max more 0) (((m.getD i noF).2.2.1.length : Int) - (m.getD i noF).2.2.2) = (lf : Int) := elf
  rw [eu] at c1
  clear s1 hc hr fz hmem ho hok h hlf eu elf hll
  generalize (m.getD i noF).2.2.1.length = dl at *
  generalize (m.getD i noF).2.2.2 = sy at *
  unfold In64 at hmo
  obtain ⟨hmo1, hmo2⟩ := hmo
  have g1 := cellset w ⟨g, i * 3 + 2, none⟩ (.int .i64 (lf : Int)) c2
  have g2 : (w.setCell ⟨g, i * 3 + 2, none⟩ (.int .i64 (lf : Int))).cell? ⟨g, i * 3 + 1, none⟩ = some (.slice au dl cu) := by
    rw [World.cell?_setCell_other (h := by intro h; injection h with _ h; omega) ..]
    exact c1
  have g3 : (w.setCell ⟨g, i * 3 + 2, none⟩ (.int .i64 (lf : Int))).frozen? ⟨g, i * 3 + 1, none⟩ = false := by
    rw [frozenset]
    exact f1
  have HE : Hid (∀ nq, OwnF (((w.drewN nq).setCell ⟨g, i * 3 + 2, none⟩ (.int .i64 (lf : Int))).setCell ⟨g, i * 3 + 1, none⟩ (.slice au lf cu)).drew base (.slice (some ⟨g, 0, none⟩) n c) (m.set i (.slice au lf cu, cutF (m.getD i noF).2 more)) ∧ w.grownBy (((w.drewN nq).setCell ⟨g, i * 3 + 2, none⟩ (.int .i64 (lf : Int))).setCell ⟨g, i * 3 + 1, none⟩ (.slice au lf cu)).drew (some g)) := by
    intro nq
    have h1 : (((w.drewN nq).setCell ⟨g, i * 3 + 2, none⟩ (.int .i64 (lf : Int))).setCell ⟨g, i * 3 + 1, none⟩ (.slice au lf cu)).drew = (((w.setCell ⟨g, i * 3 + 2, none⟩ (.int .i64 (lf : Int))).setCell ⟨g, i * 3 + 1, none⟩ (.slice au lf cu)).drewN nq).drew := rfl
    rw [h1]
    exact ⟨HF.out.1.up (up_dr (up_drewN _ _)), grown_trans HF.out.2 (grown_up (up_dr (up_drewN _ _)) _)⟩
  have HE3 : Hid (OwnF ((w.setCell ⟨g, i * 3 + 2, none⟩ (.int .i64 (lf : Int))).setCell ⟨g, i * 3 + 1, none⟩ (.slice au lf cu)).drew.drew base (.slice (some ⟨g, 0, none⟩) n c) (m.set i (.slice au lf cu, cutF (m.getD i noF).2 more)) ∧ w.grownBy ((w.setCell ⟨g, i * 3 + 2, none⟩ (.int .i64 (lf : Int))).setCell ⟨g, i * 3 + 1, none⟩ (.slice au lf cu)).drew.drew (some g)) := ⟨HF.out.1.up (up_dr (up_dr (Below.refl _ _))), grown_trans HF.out.2 (grown_up (up_dr (up_dr (Below.refl _ _))) _)⟩
  by_cases cA : more ≤ 0
  · have hsy : sy = (lf : Int) := by omega
    rw [hsy] at c2 h0 h1 hlv
    clear HF hsy
    rcases (by omega : more < 0 ∨ more = 0) with cN | cN
    · clear cA
      go_enter Tryz.func106, Tryz.ntmps106
      go_wp2_with fail
      go_region
      all_goals
        go_wp2_with fail
        go_region
        all_goals
          go_wp2_with fail
          go_end0
          first | exact ⟨_, rfl, HE.out 1⟩ | exact ⟨_, rfl, HE3.out⟩
    · subst cN
      clear cA hlv
      have hlv0 : (lf : Int) + min 0 ((dl : Int) - lf) = (lf : Int) := by omega
      go_enter Tryz.func106, Tryz.ntmps106
      go_wp2_with fail
      go_region
      all_goals
        go_wp2_with fail
        go_region
        all_goals
          go_wp2_with fail
          go_end0
          first | exact ⟨_, rfl, HE.out 1⟩ | exact ⟨_, rfl, HE3.out⟩
  · by_cases cB : more ≤ (dl : Int) - sy
    · obtain ⟨mo, hmo⟩ : ∃ mo, mo = more := ⟨_, rfl⟩
      rw [← hmo] at HE HE3 ⊢
      have hs : sy + mo = (lf : Int) := by omega
      have cA' : ¬ mo ≤ 0 := by omega
      have cB' : mo ≤ (dl : Int) - sy := by omega
      have hmo1' : -9223372036854775808 ≤ mo := by omega
      have hmo2' : mo ≤ 9223372036854775807 := by omega
      rw [← hmo] at hlv
      clear HF hmo cA cB hmo1 hmo2
      go_enter Tryz.func106, Tryz.ntmps106
      go_wp2_with fail
      go_region
      all_goals
        go_wp2_with fail
        go_region
        all_goals
          go_wp2_with fail
          go_end0
          first | exact ⟨_, rfl, HE.out 1⟩ | exact ⟨_, rfl, HE3.out⟩
    · obtain rfl : dl = lf := by omega
      have hs : sy + ((dl : Int) - sy) = (dl : Int) := by omega
      clear HF
      go_enter Tryz.func106, Tryz.ntmps106
      go_wp2_with fail
      go_region
      all_goals
        go_wp2_with fail
        go_region
        all_goals
          go_wp2_with fail
          go_end0
          first | exact ⟨_, rfl, HE.out 1⟩ | exact ⟨_, rfl, HE3.out⟩
end Go.Proofs.YtnchjlimkgbfpaaGreatDoor
