/- The program's Read and List. -/
import Derived.Test.YtoceddpjkodfkaaR1
namespace Go.Proofs.Ytoceddpjkodfkaa
open Go.RowKit
set_option linter.unusedVariables false
set_option linter.unusedSimpArgs false

def readP (s : St) (name : List Int) : List Int × Int := if checkP s then (if hasF s name then ((fileD s (idxF s name)).2.1, 0) else ([], 71)) else ([], 9)

set_option maxHeartbeats 2000000 in
set_option maxRecDepth 2000 in
theorem read_any (s : St) (name : List Int) (hna : OctL name) (v : Value) (w : World) (hv : StW w v s) (hl : s.names.length + s.safe.length ≤ 9223372036854775807) :
    Calls Try.prog 15 #[v, .string (strOfNums name)] w fun e w' => ∃ v', e = .returned (.tuple #[v', .int .i64 (readP s name).2]) ∧ OwnB w' w.heap.size v' (readP s name).1 ∧ OctL (readP s name).1 ∧ Below w.heap.size w w' := by
  obtain ⟨af, nf, cf, an, nn, cn, as', ns, cs', ev⟩ := hv.shape
  subst ev
  obtain ⟨wx, hwx⟩ : ∃ wx, wx = w.alloc (.cells #[.int .i64 s.cap, .slice af nf cf, .slice an nn cn, .slice as' ns cs', .int .i64 s.next] 33) := ⟨_, rfl⟩
  have HX : Hid (w.alloc (.cells #[.int .i64 s.cap, .slice af nf cf, .slice an nn cn, .slice as' ns cs', .int .i64 s.next] 33) = wx) := hwx.symm
  have bx : Hid (BoxW w (.cells #[.int .i64 s.cap, .slice af nf cf, .slice an nn cn, .slice as' ns cs', .int .i64 s.next] 33) wx) := by rw [hwx]; exact BoxW.start _ _
  have HS : Hid (StW w (.agg #[.int .i64 s.cap, .slice af nf cf, .slice an nn cn, .slice as' ns cs', .int .i64 s.next]) s) := hv
  clear hv hwx
  go_enter Try.func15, Try.ntmps15
  go_upto_region 1 with fail
  rw [HX.out]
  clear HX
  have q0 := bx.out.cell 0 _ rfl
  have q1 := bx.out.cell 1 _ rfl
  have q2 := bx.out.cell 2 _ rfl
  have q3 := bx.out.cell 3 _ rfl
  have q4 := bx.out.cell 4 _ rfl
  have hc := check_any s _ wx (HS.out.up bx.out.up) hl
  cases hchk : checkP s with
  | false =>
    have HR : Hid (readP s name = ([], 9)) := by unfold Hid readP; rw [hchk]; rfl
    rw [hchk] at hc
    have he : errOf false = 9 := rfl
    rw [he] at hc
    clear hchk he
    go_wp2_with fail
    refine hc.mono ?_
    rintro e w1 ⟨rfl, u1⟩
    have up1 : Hid (Below w.heap.size w w1) := up_trans bx.out.up u1
    clear u1 hc q0 q1 q2 q3 q4
    go_wp2_with fail
    go_ret2
    rw [HR.out]
    exact ⟨_, rfl, OwnB.nil _ _, (fun x hx => by cases hx), up1.out⟩
  | true =>
    have HSo : Hid (Sound s) := check_sound hchk
    have HR : Hid (readP s name = if hasF s name then ((fileD s (idxF s name)).2.1, 0) else ([], 71)) := by unfold Hid readP; rw [hchk]; rfl
    rw [hchk] at hc
    have he : errOf true = 0 := rfl
    rw [he] at hc
    clear hchk he
    go_wp2_with fail
    refine hc.mono ?_
    rintro e w1 ⟨rfl, u1⟩
    have bx1 : Hid (BoxW w (.cells #[.int .i64 s.cap, .slice af nf cf, .slice an nn cn, .slice as' ns cs', .int .i64 s.next] 33) w1) := bx.out.step u1
    clear u1 hc q0 q1 q2 q3 q4
    have q0 := bx1.out.cell 0 _ rfl
    have q1 := bx1.out.cell 1 _ rfl
    have q2 := bx1.out.cell 2 _ rfl
    have q3 := bx1.out.cell 3 _ rfl
    have q4 := bx1.out.cell 4 _ rfl
    have hst := HS.out.up bx1.out.up
    obtain ⟨vf, vn, vs, ev, hf, hn, hs, hi1, hi2⟩ := hst
    simp at ev
    obtain ⟨rfl, rfl, rfl⟩ := ev
    have HF : Hid (FilesW w1 (.slice af nf cf) s.files) := hf
    have hcf := file_any s.files s.names name hna (.int .i64 s.cap) _ _ (.slice as' ns cs') (.int .i64 s.next) w1 hf hn (by have := HSo.out.1.1; omega) (by have := HSo.out.1.2.1; omega) HSo.out.1.2.2.2.2 HSo.out.1.2.2.2.1
    have eh : (thereN s.names name && thereF s.files (s.names.getD (rankN s.names name) ([], 0)).2) = hasF s name := rfl
    rw [eh] at hcf
    clear hf hn hs hi1 hi2 eh
    cases hth : hasF s name with
    | false =>
      have HR2 : Hid (readP s name = ([], 71)) := by unfold Hid; rw [HR.out, hth]; rfl
      rw [hth] at hcf
      clear hth
      generalize (if thereN s.names name = true then ((rankF s.files (s.names.getD (rankN s.names name) ([], 0)).2 : Nat) : Int) else 0) = ix at hcf
      go_wp2_with fail
      refine hcf.mono ?_
      rintro e w2 ⟨rfl, u2⟩
      have up2 : Hid (Below w.heap.size w w2) := up_trans bx1.out.up u2
      clear u2 hcf q0 q1 q2 q3 q4
      go_wp2_with fail
      go_ret2
      rw [HR2.out]
      exact ⟨_, rfl, OwnB.nil _ _, (fun x hx => by cases hx), up2.out⟩
    | true =>
      have hlt := idx_lt hth
      have HR2 : Hid (readP s name = ((fileD s (idxF s name)).2.1, 0)) := by unfold Hid; rw [HR.out, hth]; rfl
      have ei : (if thereN s.names name = true then ((rankF s.files (s.names.getD (rankN s.names name) ([], 0)).2 : Nat) : Int) else 0) = ((idxF s name : Nat) : Int) := by
        have h1 : thereN s.names name = true := by
          unfold hasF at hth
          rw [Bool.and_eq_true] at hth
          exact hth.1
        rw [if_pos h1]
        rfl
      rw [hth, ei] at hcf
      clear hth ei
      generalize idxF s name = i at *
      have hii : (i : Int) < (s.files.length : Int) := by omega
      go_wp2_with fail
      refine hcf.mono ?_
      rintro e w2 ⟨rfl, u2⟩
      have bx2 : Hid (BoxW w (.cells #[.int .i64 s.cap, .slice af nf cf, .slice an nn cn, .slice as' ns cs', .int .i64 s.next] 33) w2) := bx1.out.step u2
      have HF2 : Hid (FilesW w2 (.slice af nf cf) s.files) := HF.out.up u2
      clear u2 hcf q0 q1 q2 q3 q4
      have q1 := bx2.out.cell 1 _ rfl
      obtain ⟨b, off, cap', u, e, _, _, c0, c1, c2, ho, hdl, _⟩ := HF2.out.at i hlt
      simp at e
      obtain ⟨rfl, rfl, rfl⟩ := e
      have HO : Hid (Octs w2 u (fileD s i).2.1 ∧ (fileD s i).2.1.length ≤ 140737488355328) := ⟨ho, hdl⟩
      clear ho hdl c0 c2
      obtain ⟨au, cu, eu, _⟩ := HO.out.1.slice
      subst eu
      go_wp2_with fail
      refine (freshB_any _ _ w2 HO.out.1 HO.out.2).mono ?_
      rintro e w3 ⟨v3, rfl, ob3, u3⟩
      have HO3 : Hid (OwnB w3 w.heap.size v3 (fileD s i).2.1 ∧ Below w.heap.size w w3) := ⟨ob3.mono bx2.out.up.size, up_trans bx2.out.up u3⟩
      clear ob3 u3 q1 c1
      go_wp2_with fail
      go_ret2
      rw [HR2.out]
      exact ⟨_, rfl, HO3.out.1, HO.out.1.1, HO3.out.2⟩

def listP (s : St) : List (List Int) × Int := if checkP s then (s.names.map (·.1), 0) else ([], 9)

def srow (t : List Int) : List Value := [.string (strOfNums t)]

theorem Try.info9 : (Try.prog.info? 9).map (fun i => (i.zero, i.size, i.bytes)) = some (some (.string ⟨#[]⟩), 1, 16) := by kernel_rfl

set_option maxHeartbeats 2000000 in
set_option maxRecDepth 2000 in
theorem list_any (s : St) (v : Value) (w : World) (hv : StW w v s) (hl : s.names.length + s.safe.length ≤ 9223372036854775807) :
    Calls Try.prog 17 #[v] w fun e w' => ∃ v', e = .returned (.tuple #[v', .int .i64 (listP s).2]) ∧ OwnR w' w.heap.size 9 1 v' ((listP s).1.map srow) ∧ Below w.heap.size w w' := by
  obtain ⟨af, nf, cf, an, nn, cn, as', ns, cs', ev⟩ := hv.shape
  subst ev
  obtain ⟨wx, hwx⟩ : ∃ wx, wx = w.alloc (.cells #[.int .i64 s.cap, .slice af nf cf, .slice an nn cn, .slice as' ns cs', .int .i64 s.next] 33) := ⟨_, rfl⟩
  have HX : Hid (w.alloc (.cells #[.int .i64 s.cap, .slice af nf cf, .slice an nn cn, .slice as' ns cs', .int .i64 s.next] 33) = wx) := hwx.symm
  have bx : Hid (BoxW w (.cells #[.int .i64 s.cap, .slice af nf cf, .slice an nn cn, .slice as' ns cs', .int .i64 s.next] 33) wx) := by rw [hwx]; exact BoxW.start _ _
  have HS : Hid (StW w (.agg #[.int .i64 s.cap, .slice af nf cf, .slice an nn cn, .slice as' ns cs', .int .i64 s.next]) s) := hv
  clear hv hwx
  go_enter Try.func17, Try.ntmps17
  go_upto_region 1 with fail
  rw [HX.out]
  clear HX
  have q0 := bx.out.cell 0 _ rfl
  have q1 := bx.out.cell 1 _ rfl
  have q2 := bx.out.cell 2 _ rfl
  have q3 := bx.out.cell 3 _ rfl
  have q4 := bx.out.cell 4 _ rfl
  have hc := check_any s _ wx (HS.out.up bx.out.up) hl
  cases hchk : checkP s with
  | false =>
    have HR : Hid (listP s = ([], 9)) := by unfold Hid listP; rw [hchk]; rfl
    rw [hchk] at hc
    have he : errOf false = 9 := rfl
    rw [he] at hc
    clear hchk he
    go_wp2_with fail
    refine hc.mono ?_
    rintro e w1 ⟨rfl, u1⟩
    have up1 : Hid (Below w.heap.size w w1) := up_trans bx.out.up u1
    clear u1 hc q0 q1 q2 q3 q4
    go_wp2_with fail
    go_ret2
    rw [HR.out]
    exact ⟨_, rfl, OwnR.nil _ _ _ _, up1.out⟩
  | true =>
    have HSo : Hid (Sound s) := check_sound hchk
    have HR : Hid (listP s = (s.names.map (·.1), 0)) := by unfold Hid listP; rw [hchk]; rfl
    rw [hchk] at hc
    have he : errOf true = 0 := rfl
    rw [he] at hc
    clear hchk he
    go_wp2_with fail
    refine hc.mono ?_
    rintro e w1 ⟨rfl, u1⟩
    have bx1 : Hid (BoxW w (.cells #[.int .i64 s.cap, .slice af nf cf, .slice an nn cn, .slice as' ns cs', .int .i64 s.next] 33) w1) := bx.out.step u1
    clear u1 hc q0 q1 q2 q3 q4
    have q2 := bx1.out.cell 2 _ rfl
    have hst := HS.out.up bx1.out.up
    obtain ⟨vf, vn, vs, ev, hf, hn, hs, hi1, hi2⟩ := hst
    simp at ev
    obtain ⟨rfl, rfl, rfl⟩ := ev
    obtain ⟨x1, x2, en, _, _⟩ := hn.len
    injection en with en1 en2 en3
    subst en2
    clear en1 en3
    have HN : Hid (NamesW w1 (.slice an s.names.length cn) s.names) := hn
    have hln := HSo.out.1.2.1
    clear hf hn hs hi1 hi2
    go_wp2_with fail
    clear q2
    go_loopw [5, 16] (fun vb i wr => ∃ k : Nat, k ≤ s.names.length ∧ i = .int .i64 k ∧ Hid (OwnR wr w1.heap.size 9 1 vb (((s.names.take k).map (·.1)).map srow)) ∧ Hid (Below w1.heap.size w1 wr)) (fun _ i _ => s.names.length - (intOf i).toNat)
    case atStart => exact ⟨0, Nat.zero_le _, rfl, OwnR.nil _ _ _ _, Below.refl _ _⟩
    case round =>
      obtain ⟨k, hk, rfl, HO, up⟩ := hrel
      by_cases hlt : k < s.names.length
      · have hlt' : (k : Int) < (s.names.length : Int) := by omega
        obtain ⟨b, off, cap', e, _, _, c0, c1, ho, _, hi'⟩ := (HN.out.up up.out).at k hlt
        simp at e
        obtain ⟨rfl, rfl⟩ := e
        have HT : Hid (s.names.take (k + 1) = s.names.take k ++ [s.names.getD k ([], 0)]) := take_snoc s.names k _ hlt
        have HKl : Hid ((((s.names.take k).map (·.1)).map srow).length = k) := by simp [Hid]; omega
        generalize s.names.getD k ([], 0) = y at *
        obtain ⟨ys, yi⟩ := y
        simp only at c0 c1 HT
        have hsz1 := bx1.out.up.size
        have hsz2 := up.out.size
        obtain ⟨vl, cl, ev5, _, _⟩ := (Rws.own HO.out).len
        subst ev5
        rw [HKl.out] at HO ⊢
        have HOx : Hid (OwnR (wr.alloc (.cells #[.string (strOfNums ys), .int .i64 yi] 73)) w1.heap.size 9 1 (.slice vl k cl) (((s.names.take k).map (·.1)).map srow)) := HO.out.up (up_al (Below.refl _ _) _)
        go_wp2_with (at_builtin; refine wpList_append_row (wr.alloc (.cells #[.string (strOfNums ys), .int .i64 yi] 73)) rfl (.tmp 20) (.tmp 23) 47 9 (.string ⟨#[]⟩) 1 16 rfl Try.underlying47 Try.info9 rfl (by decide) w1.heap.size (.slice vl k cl) _ rfl HOx.out (srow ys) _ (wr.heap.size + 1) ?n1 rfl rfl rfl ?n2 ?n3 ?n4 ?n5 ?_)
        try case n1 => ((try simp))
        try case n2 => (intro u hu; simp [srow] at hu; subst hu; rfl)
        try case n3 => ((try rw [HKl.out]); omega)
        try case n4 => ((try rw [HKl.out]); unfold maxLen; omega)
        try case n5 => ((try simp); omega)
        intro v6 w6 o6 b6
        have HO6 : Hid (OwnR w6 w1.heap.size 9 1 v6 (((s.names.take (k + 1)).map (·.1)).map srow)) := by
          unfold Hid
          rw [HT.out, List.map_append, List.map_append]
          simpa using o6
        have HU6 : Hid (Below w1.heap.size w1 w6) := (up_al up.out _).trans b6
        clear o6 b6
        go_wp2_with fail
        exact ⟨⟨k + 1, by omega, by go_num, HO6, HU6⟩, by simp [intOf]; omega⟩
      · have hlt' : ¬ (k : Int) < (s.names.length : Int) := by omega
        obtain rfl : k = s.names.length := by omega
        rw [List.take_length] at HO
        have HO6 := HO
        go_wp2_with fail
        go_ret2
        rw [HR.out]
        exact ⟨_, rfl, HO6.out.mono bx1.out.up.size, up_trans bx1.out.up up.out⟩
end Go.Proofs.Ytoceddpjkodfkaa
