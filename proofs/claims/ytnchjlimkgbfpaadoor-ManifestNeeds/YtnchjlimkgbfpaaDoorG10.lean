/- The texts QD, M1, R1, R2, HOrp, in this order. -/
import Derived.Test.YtnchjlimkgbfpaaDoorG09
import Derived.Test.YtnchjlimkgbfpaaDoorG04

/- An act, whichever it is. -/
namespace Go.Proofs.YtnchjlimkgbfpaaDoor
open Go.RowKit
set_option linter.unusedVariables false
set_option linter.unusedSimpArgs false

/-- An act. -/
structure Ac where
  what : Int
  name : List Int
  dest : List Int
  data : List Int

def okAc (a : Ac) : Prop := In64 a.what ∧ OctL a.name ∧ a.name.length ≤ 140737488355328 ∧ OctL a.dest ∧ a.dest.length ≤ 140737488355328 ∧ a.data.length ≤ 140737488355328

def AcW (w : World) (v : Value) (a : Ac) : Prop := ∃ vd, v = .agg #[.int .i64 a.what, .string (strOfNums a.name), .string (strOfNums a.dest), vd] ∧ Octs w vd a.data ∧ okAc a

theorem AcW.up {w w' : World} {v : Value} {a : Ac} (h : AcW w v a) (hb : Below w.heap.size w w') : AcW w' v a := by
  obtain ⟨vd, e, h1, h2⟩ := h
  exact ⟨vd, e, h1.up hb, h2⟩

/-- What the program makes of a state by an act, and the error. -/
def actP (s : St) (a : Ac) : St × Int :=
  if a.what = 1 then createP s a.name else if a.what = 2 then extendP s a.name a.data else if a.what = 3 then syncP s a.name else
  if a.what = 4 then renameP s a.name a.dest else if a.what = 5 then removeP s a.name else if a.what = 6 then (syncNamesP s, 0) else (s, 22)

/-- A state that acts may be done on. -/
def Sound (s : St) : Prop := Fine s ∧ (0 ≤ s.cap ∧ s.cap ≤ 16777216) ∧ (1 ≤ s.next ∧ s.next ≤ 2147483647)

end Go.Proofs.YtnchjlimkgbfpaaDoor

/- A state that the program's Check takes is sound. -/
namespace Go.Proofs.YtnchjlimkgbfpaaDoor
open Go.RowKit
set_option linter.unusedVariables false

theorem nodup_le : ∀ (l k : List Int), l.Nodup → (∀ x ∈ l, x ∈ k) → l.length ≤ k.length
  | [], k, _, _ => by simp
  | x :: l, k, hn, hs => by
    have hx : x ∈ k := hs x (by simp)
    rw [List.nodup_cons] at hn
    have h1 : ∀ y ∈ l, y ∈ k.erase x := by
      intro y hy
      have hne : y ≠ x := fun e => hn.1 (e ▸ hy)
      exact (List.mem_erase_of_ne hne).2 (hs y (by simp [hy]))
    have := nodup_le l (k.erase x) hn.2 h1
    rw [List.length_erase_of_mem hx] at this
    have hp : 0 < k.length := List.length_pos_of_mem hx
    simp only [List.length_cons]
    omega

theorem addId_nodup {ids : List Int} (h : ids.Nodup) (x : Int) : (addId ids x).Nodup := by
  unfold addId
  split
  · exact h
  · rename_i hc
    rw [List.nodup_append]
    refine ⟨h, by simp, ?_⟩
    intro a ha b hb
    simp at hb
    subst hb
    intro e
    subst e
    simp at hc
    exact hc ha

theorem idsOf_nodup (l : List (List Int × Int)) : (idsOf l).Nodup := by
  unfold idsOf
  have h : ∀ (m acc : List Int), acc.Nodup → (m.foldl addId acc).Nodup := by
    intro m
    induction m with
    | nil => intro acc h; exact h
    | cons x m ih => intro acc h; exact ih _ (addId_nodup h x)
  exact h _ _ (by simp)

theorem mem_idsOf (l : List (List Int × Int)) (x : Int) : x ∈ idsOf l ↔ ∃ p ∈ l, p.2 = x := by
  have h := idsOf_mem l x
  constructor
  · intro hx
    have : (idsOf l).contains x = true := by simpa using hx
    rw [h] at this
    unfold standsOf at this
    rw [List.any_eq_true] at this
    obtain ⟨p, hp, e⟩ := this
    exact ⟨p, hp, by simpa using e⟩
  · rintro ⟨p, hp, rfl⟩
    have : standsOf l p.2 = true := by
      unfold standsOf
      rw [List.any_eq_true]
      exact ⟨p, hp, by simp⟩
    rw [← h] at this
    simpa using this

theorem thereF_mem {fs : List (Int × List Int × Int)} {id : Int} (h : thereF fs id = true) : id ∈ fs.map (·.1) := by
  unfold thereF at h
  simp only [Bool.and_eq_true, decide_eq_true_eq] at h
  rw [List.mem_map]
  refine ⟨fs.getD (rankF fs id) (0, [], 0), ?_, h.2⟩
  simp [List.getD, h.1]

theorem names_ok {fs : List (Int × List Int × Int)} {l : List (List Int × Int)} (h : namesMayOf fs l = true) : (∀ k, k < l.length → okNameP fs l k = true) ∧ (idsOf l).length = l.length := by
  unfold namesMayOf at h
  rw [Bool.and_eq_true, decide_eq_true_eq] at h
  exact ⟨all_range_get h.1, h.2⟩

theorem names_there {fs : List (Int × List Int × Int)} {l : List (List Int × Int)} (h : namesMayOf fs l = true) : ∀ p ∈ l, thereF fs p.2 = true := by
  intro p hp
  obtain ⟨k, hk, rfl⟩ := List.getElem_of_mem hp
  have := (names_ok h).1 k hk
  unfold okNameP nameAt at this
  simp only [Bool.and_eq_true] at this
  have e : l.getD k ([], 0) = l[k] := by simp [List.getD, hk]
  rw [e] at this
  exact this.2

theorem names_len {fs : List (Int × List Int × Int)} {l : List (List Int × Int)} (h : namesMayOf fs l = true) : l.length ≤ fs.length := by
  rw [← (names_ok h).2]
  have := nodup_le (idsOf l) (fs.map (·.1)) (idsOf_nodup l) (by
    intro x hx
    obtain ⟨p, hp, rfl⟩ := (mem_idsOf l x).1 hx
    exact thereF_mem (names_there h p hp))
  simpa using this

theorem names_rise {fs : List (Int × List Int × Int)} {l : List (List Int × Int)} (h : namesMayOf fs l = true) : RiseN l := by
  intro a b hab hb
  induction b with
  | zero => omega
  | succ b ih =>
    have h1 := (names_ok h).1 (b + 1) hb
    unfold okNameP nameAt at h1
    simp only [Bool.and_eq_true, Bool.or_eq_true, decide_eq_true_eq] at h1
    have h2 : lessL (l.getD b ([], 0)).1 (l.getD (b + 1) ([], 0)).1 = true := by
      rcases h1.1.2 with q | q
      · omega
      · simpa using q
    rcases Nat.lt_or_ge a b with c | c
    · exact lessL_trans _ _ _ (ih c (by omega)) h2
    · obtain rfl : a = b := by omega
      exact h2

theorem check_parts {s : St} (h : checkP s = true) : boundsOf s = true ∧ filesMayOf s = true ∧ namesMayOf s.files s.names = true ∧ namesMayOf s.files s.safe = true ∧ allNamedOf s = true := by
  unfold checkP at h
  simp only [Bool.and_eq_true] at h
  exact ⟨h.1.1.1.1, h.1.1.1.2, h.1.1.2, h.1.2, h.2⟩

theorem check_sound {s : St} (h : checkP s = true) : Sound s := by
  obtain ⟨h1, h2, h3, h4, h5⟩ := check_parts h
  have hb := bounds_len h1
  have hn := names_len h3
  have hs := names_len h4
  unfold boundsOf at h1
  simp only [Bool.and_eq_true, decide_eq_true_eq] at h1
  exact ⟨⟨hb, by omega, by omega, names_rise h3, filesMay_rise h2⟩, ⟨h1.1.1.1.1, h1.1.1.1.2⟩, ⟨h1.1.1.2, h1.1.2⟩⟩
end Go.Proofs.YtnchjlimkgbfpaaDoor

/- The program's New, Do and Read. -/
namespace Go.Proofs.YtnchjlimkgbfpaaDoor
open Go.RowKit
set_option linter.unusedVariables false
set_option linter.unusedSimpArgs false

def z0 : St := ⟨0, [], [], [], 0⟩

theorem OwnV.zero (w : World) (base : Nat) (c n : Int) (hc : In64 c) (hn : In64 n) : OwnV w base (.agg #[.int .i64 c, .slice none 0 0, .slice none 0 0, .slice none 0 0, .int .i64 n]) ⟨c, [], [], [], n⟩ :=
  ⟨_, _, _, [], rfl, rfl, ⟨OwnR.nil _ _ _ _, (fun y hy => by cases hy), List.Pairwise.nil⟩, OwnN.nil _ _ _, OwnN.nil _ _ _, .inl rfl, hc, hn⟩

theorem in64_0 : In64 0 := by unfold In64; omega

/-- A state through its own block, and a number. -/
theorem results_state1 {fn : Func} {r k : Nat} (h : fn.results = #[.cell r 42, .tmp k]) (tmps : Array Value) (w : World) {N : Nat} {a b c d e x : Value} (ht : tmps.getD r undef = .pointer (some ⟨N, 0, none⟩)) (hx : tmps.getD k undef = x)
    (hc : w.heap[N]? = some (.cells #[a, b, c, d, e] 42)) : (results fn tmps).run Tryd.prog w = .ok (.tuple #[.agg #[a, b, c, d, e], x]) w := by
  have c0 := blk_cell hc 0 a rfl
  have c1 := blk_cell hc 1 b rfl
  have c2 := blk_cell hc 2 c rfl
  have c3 := blk_cell hc 3 d rfl
  have c4 := blk_cell hc 4 e rfl
  have ht' : tmps[r]?.getD undef = .pointer (some ⟨N, 0, none⟩) := by simpa using ht
  have hx' : tmps[k]?.getD undef = x := by simpa using hx
  simp only [results, h]
  simp [ht', hx', go_sem, c0, c1, c2, c3, c4]

def newP (n : Int) : St × Int := if n < 0 ∨ 16777216 < n then (z0, 4) else (⟨n, [], [], [], 1⟩, 0)

/-- What the program's Do answers. -/
def doP (s : St) (a : Ac) : St × Int := if checkP s then (if (actP s a).2 = 0 then actP s a else (z0, (actP s a).2)) else (z0, 9)

/-- What is owned but for the state's own block. -/
theorem OwnS.take {w : World} {base B : Nat} {s : St} (h : OwnS w base B s) : ∃ vf vn vs, w.heap[B]? = some (.cells #[.int .i64 s.cap, vf, vn, vs, .int .i64 s.next] 42) ∧ OwnV w base (.agg #[.int .i64 s.cap, vf, vn, vs, .int .i64 s.next]) s := by
  obtain ⟨_, vf, vn, vs, m, hb, hm, of, on, os, hap, hi1, hi2⟩ := h
  exact ⟨vf, vn, vs, hb, vf, vn, vs, m, rfl, hm, of, on, os, hap, hi1, hi2⟩

/-- A whole state is stored into a block of its kind. -/
theorem OwnV.put {w : World} {base : Nat} {s : St} {a b c d e : Value} (h : OwnV w base (.agg #[a, b, c, d, e]) s) {N : Nat} {x0 x1 x2 x3 x4 : Value} (hb : w.heap[N]? = some (.cells #[x0, x1, x2, x3, x4] 42)) :
    OwnS (set5 w N a b c d e) base N s ∧ OwnV (set5 w N a b c d e) base (.agg #[a, b, c, d, e]) s := by
  obtain ⟨vf, vn, vs, m, ev, hm, of, on, os, hap, hi1, hi2⟩ := h
  have g5 := set5_grown w N a b c d e
  have b5 := set5_blk hb a b c d e
  simp at ev
  obtain ⟨rfl, rfl, rfl, rfl, rfl⟩ := ev
  have of5 := of.far g5 (own_blk_ne of.1.2 hb (by decide)) (fun y hy => own_blk_ne (of.2.1 y hy).1 hb (by decide))
  have on5 := on.far g5 (own_blk_ne on.2.2 hb (by decide))
  have os5 := os.far g5 (own_blk_ne os.2.2 hb (by decide))
  exact ⟨⟨trivial, _, _, _, m, b5, hm, of5, on5, os5, hap, hi1, hi2⟩, ⟨_, _, _, m, rfl, hm, of5, on5, os5, hap, hi1, hi2⟩⟩

theorem OwnV.shape {w : World} {base : Nat} {v : Value} {s : St} (h : OwnV w base v s) : ∃ af nf cf an nn cn as' ns cs', v = .agg #[.int .i64 s.cap, .slice af nf cf, .slice an nn cn, .slice as' ns cs', .int .i64 s.next] := by
  obtain ⟨vf, vn, vs, m, rfl, hm, of, on, os, hap, hi1, hi2⟩ := h
  obtain ⟨a1, c1, e1, _, _⟩ := (NamesW.own on).len
  obtain ⟨a2, c2, e2, _, _⟩ := (NamesW.own os).len
  obtain ⟨a3, c3, e3, _, _⟩ := (Rws.own of.1).len
  subst e1
  subst e2
  subst e3
  exact ⟨_, _, _, _, _, _, _, _, _, rfl⟩

theorem StW.shape {w : World} {v : Value} {s : St} (h : StW w v s) : ∃ af nf cf an nn cn as' ns cs', v = .agg #[.int .i64 s.cap, .slice af nf cf, .slice an nn cn, .slice as' ns cs', .int .i64 s.next] := by
  obtain ⟨vf, vn, vs, rfl, hf, hn, hs, hi1, hi2⟩ := h
  obtain ⟨a1, c1, e1, _, _⟩ := hn.len
  obtain ⟨a2, c2, e2, _, _⟩ := hs.len
  obtain ⟨a3, c3, e3, _, _⟩ := hf.len
  subst e1
  subst e2
  subst e3
  exact ⟨_, _, _, _, _, _, _, _, _, rfl⟩

end Go.Proofs.YtnchjlimkgbfpaaDoor

/- The program's Read and List. -/
namespace Go.Proofs.YtnchjlimkgbfpaaDoor
open Go.RowKit
set_option linter.unusedVariables false
set_option linter.unusedSimpArgs false

def readP (s : St) (name : List Int) : List Int × Int := if checkP s then (if hasF s name then ((fileD s (idxF s name)).2.1, 0) else ([], 71)) else ([], 9)

def listP (s : St) : List (List Int) × Int := if checkP s then (s.names.map (·.1), 0) else ([], 9)

def srow (t : List Int) : List Value := [.string (strOfNums t)]

theorem Tryd.info9 : (Tryd.prog.info? 9).map (fun i => (i.zero, i.size, i.bytes)) = some (some (.string ⟨#[]⟩), 1, 16) := by kernel_rfl

set_option maxHeartbeats 2000000 in
set_option maxRecDepth 2000 in
theorem list_any (s : St) (v : Value) (w : World) (hv : StW w v s) (hl : s.names.length + s.safe.length ≤ 9223372036854775807) :
    Calls Tryd.prog 14 #[v] w fun e w' => ∃ v', e = .returned (.tuple #[v', .int .i64 (listP s).2]) ∧ OwnR w' w.heap.size 9 1 v' ((listP s).1.map srow) ∧ Below w.heap.size w w' := by
  obtain ⟨af, nf, cf, an, nn, cn, as', ns, cs', ev⟩ := hv.shape
  subst ev
  obtain ⟨wx, hwx⟩ : ∃ wx, wx = w.alloc (.cells #[.int .i64 s.cap, .slice af nf cf, .slice an nn cn, .slice as' ns cs', .int .i64 s.next] 42) := ⟨_, rfl⟩
  have HX : Hid (w.alloc (.cells #[.int .i64 s.cap, .slice af nf cf, .slice an nn cn, .slice as' ns cs', .int .i64 s.next] 42) = wx) := hwx.symm
  have bx : Hid (BoxW w (.cells #[.int .i64 s.cap, .slice af nf cf, .slice an nn cn, .slice as' ns cs', .int .i64 s.next] 42) wx) := by rw [hwx]; exact BoxW.start _ _
  have HS : Hid (StW w (.agg #[.int .i64 s.cap, .slice af nf cf, .slice an nn cn, .slice as' ns cs', .int .i64 s.next]) s) := hv
  clear hv hwx
  go_enter Tryd.func14, Tryd.ntmps14
  go_upto_region 1 with fail
  rw [HX.out]
  clear HX
  have q0 := bx.out.cell 0 _ rfl
  have q1 := bx.out.cell 1 _ rfl
  have q2 := bx.out.cell 2 _ rfl
  have q3 := bx.out.cell 3 _ rfl
  have q4 := bx.out.cell 4 _ rfl
  have hc := check_any s _ wx (HS.out.up bx.out.up) hl
  cases hchk : checkP s with
  | false =>
    have HR : Hid (listP s = ([], 9)) := by unfold Hid listP; rw [hchk]; rfl
    rw [hchk] at hc
    have he : errOf false = 9 := rfl
    rw [he] at hc
    clear hchk he
    go_wp2_with fail
    refine hc.mono ?_
    rintro e w1 ⟨rfl, u1⟩
    have up1 : Hid (Below w.heap.size w w1) := up_trans bx.out.up u1
    clear u1 hc q0 q1 q2 q3 q4
    go_wp2_with fail
    go_ret2
    rw [HR.out]
    exact ⟨_, rfl, OwnR.nil _ _ _ _, up1.out⟩
  | true =>
    have HSo : Hid (Sound s) := check_sound hchk
    have HR : Hid (listP s = (s.names.map (·.1), 0)) := by unfold Hid listP; rw [hchk]; rfl
    rw [hchk] at hc
    have he : errOf true = 0 := rfl
    rw [he] at hc
    clear hchk he
    go_wp2_with fail
    refine hc.mono ?_
    rintro e w1 ⟨rfl, u1⟩
    have bx1 : Hid (BoxW w (.cells #[.int .i64 s.cap, .slice af nf cf, .slice an nn cn, .slice as' ns cs', .int .i64 s.next] 42) w1) := bx.out.step u1
    clear u1 hc q0 q1 q2 q3 q4
    have q2 := bx1.out.cell 2 _ rfl
    have hst := HS.out.up bx1.out.up
    obtain ⟨vf, vn, vs, ev, hf, hn, hs, hi1, hi2⟩ := hst
    simp at ev
    obtain ⟨rfl, rfl, rfl⟩ := ev
    obtain ⟨x1, x2, en, _, _⟩ := hn.len
    injection en with en1 en2 en3
    subst en2
    clear en1 en3
    have HN : Hid (NamesW w1 (.slice an s.names.length cn) s.names) := hn
    have hln := HSo.out.1.2.1
    clear hf hn hs hi1 hi2
    go_wp2_with fail
    clear q2
    go_loopw [5, 16] (fun vb i wr => ∃ k : Nat, k ≤ s.names.length ∧ i = .int .i64 k ∧ Hid (OwnR wr w1.heap.size 9 1 vb (((s.names.take k).map (·.1)).map srow)) ∧ Hid (Below w1.heap.size w1 wr)) (fun _ i _ => s.names.length - (intOf i).toNat)
    case atStart => exact ⟨0, Nat.zero_le _, rfl, OwnR.nil _ _ _ _, Below.refl _ _⟩
    case round =>
      obtain ⟨k, hk, rfl, HO, up⟩ := hrel
      by_cases hlt : k < s.names.length
      · have hlt' : (k : Int) < (s.names.length : Int) := by omega
        obtain ⟨b, off, cap', e, _, _, c0, c1, ho, _, hi'⟩ := (HN.out.up up.out).at k hlt
        simp at e
        obtain ⟨rfl, rfl⟩ := e
        have HT : Hid (s.names.take (k + 1) = s.names.take k ++ [s.names.getD k ([], 0)]) := take_snoc s.names k _ hlt
        have HKl : Hid ((((s.names.take k).map (·.1)).map srow).length = k) := by simp [Hid]; omega
        generalize s.names.getD k ([], 0) = y at *
        obtain ⟨ys, yi⟩ := y
        simp only at c0 c1 HT
        have hsz1 := bx1.out.up.size
        have hsz2 := up.out.size
        obtain ⟨vl, cl, ev5, _, _⟩ := (Rws.own HO.out).len
        subst ev5
        rw [HKl.out] at HO ⊢
        have HOx : Hid (OwnR (wr.alloc (.cells #[.string (strOfNums ys), .int .i64 yi] 74)) w1.heap.size 9 1 (.slice vl k cl) (((s.names.take k).map (·.1)).map srow)) := HO.out.up (up_al (Below.refl _ _) _)
        go_wp2_with (at_builtin; refine wpList_append_row (wr.alloc (.cells #[.string (strOfNums ys), .int .i64 yi] 74)) rfl (.tmp 20) (.tmp 23) 44 9 (.string ⟨#[]⟩) 1 16 rfl Tryd.underlying44 Tryd.info9 rfl (by decide) w1.heap.size (.slice vl k cl) _ rfl HOx.out (srow ys) _ (wr.heap.size + 1) ?n1 rfl rfl rfl ?n2 ?n3 ?n4 ?n5 ?_)
        try case n1 => ((try simp))
        try case n2 => (intro u hu; simp [srow] at hu; subst hu; rfl)
        try case n3 => ((try rw [HKl.out]); omega)
        try case n4 => ((try rw [HKl.out]); unfold maxLen; omega)
        try case n5 => ((try simp); omega)
        intro v6 w6 o6 b6
        have HO6 : Hid (OwnR w6 w1.heap.size 9 1 v6 (((s.names.take (k + 1)).map (·.1)).map srow)) := by
          unfold Hid
          rw [HT.out, List.map_append, List.map_append]
          simpa using o6
        have HU6 : Hid (Below w1.heap.size w1 w6) := (up_al up.out _).trans b6
        clear o6 b6
        go_wp2_with fail
        exact ⟨⟨k + 1, by omega, by go_num, HO6, HU6⟩, by simp [intOf]; omega⟩
      · have hlt' : ¬ (k : Int) < (s.names.length : Int) := by omega
        obtain rfl : k = s.names.length := by omega
        rw [List.take_length] at HO
        have HO6 := HO
        go_wp2_with fail
        go_ret2
        rw [HR.out]
        exact ⟨_, rfl, HO6.out.mono bx1.out.up.size, up_trans bx1.out.up up.out⟩
end Go.Proofs.YtnchjlimkgbfpaaDoor

/- The program's Orphans: its closure, IndexFunc and DeleteFunc over it. -/
namespace Go.Proofs.YtnchjlimkgbfpaaDoor
open Go.RowKit
set_option linter.unusedVariables false
set_option linter.unusedSimpArgs false

/-- Is the name needed? -/
def nedB (needs : List (List Int)) (log : Int) (x : List Int) : Bool := decide (x ∈ needs) || logOf log x
theorem parR_log (log : Int) (x : List Int) : ∃ (k n : Int) (b : Bool), parR (parseN x) = .tuple #[.int .u8 k, .int .i64 n, .bool b] ∧ logOf log x = (b && (decide (k = 108) && decide (log ≤ n))) := by
  unfold logOf
  cases h : parseN x with
  | none => exact ⟨0, 0, false, rfl, by simp⟩
  | some q => exact ⟨q.1, q.2, true, rfl, by simp⟩
/-- The library's variables lie below B. -/
def EnvB (B : Nat) (w : World) : Prop := ∃ w0, EnvL w0 ∧ w0.heap.size ≤ B ∧ Below w0.heap.size w0 w
theorem EnvB.at {B : Nat} {w : World} (h : EnvB B w) : EnvL w := by
  obtain ⟨w0, h1, _, h2⟩ := h
  exact h1.up h2
theorem EnvB.of {w : World} (h : EnvL w) : EnvB w.heap.size w := ⟨w, h, Nat.le_refl _, Below.refl _ _⟩
theorem EnvB.up {B : Nat} {w w' : World} (h : EnvB B w) (hb : Below w.heap.size w w') : EnvB B w' := by
  obtain ⟨w0, h1, h2, h3⟩ := h
  exact ⟨w0, h1, h2, h3.trans (hb.mono h3.size)⟩
theorem EnvB.mono {B B' : Nat} {w : World} (h : EnvB B w) (hb : B ≤ B') : EnvB B' w := by
  obtain ⟨w0, h1, h2, h3⟩ := h
  exact ⟨w0, h1, Nat.le_trans h2 hb, h3⟩
theorem EnvB.grown {B g : Nat} {w w' : World} (h : EnvB B w) (hg : w.grownBy w' (some g)) (hB : B ≤ g) : EnvB B w' := by
  obtain ⟨w0, h1, h2, h3⟩ := h
  exact ⟨w0, h1, h2, h3.grown hg h3.size (fun k hk => by injection hk with hk; omega)⟩
/-- What the closure leans on: the set in a cell, the number in a cell. -/
def OrpW (B : Nat) (w : World) (NN NL b : Nat) (needs : List (List Int)) (log : Int) : Prop := w.cell? ⟨NN, 0, none⟩ = some (.map (some b)) ∧ w.cell? ⟨NL, 0, none⟩ = some (.int .i64 log) ∧ SetN w b needs ∧ EnvB B w
theorem OrpW.up {B : Nat} {w w' : World} {NN NL b : Nat} {needs : List (List Int)} {log : Int} (h : OrpW B w NN NL b needs log) (hb : Below w.heap.size w w') : OrpW B w' NN NL b needs log :=
  ⟨(hb.cell (p := ⟨NN, 0, none⟩) (World.block_lt_of_cell? w _ h.1)).trans h.1, (hb.cell (p := ⟨NL, 0, none⟩) (World.block_lt_of_cell? w _ h.2.1)).trans h.2.1, h.2.2.1.up hb, h.2.2.2.up hb⟩
set_option maxHeartbeats 2000000 in
set_option maxRecDepth 20000 in
theorem orp1_any (x : List Int) (hx : ∀ y ∈ x, 0 ≤ y ∧ y ≤ 255) (hm : x.length ≤ 140737488355328) (NN NL b : Nat) (needs : List (List Int)) (log : Int) (B : Nat) (w : World) (h : OrpW B w NN NL b needs log) :
    Calls Tryd.prog 23 #[.string (strOfNums x), .pointer (some ⟨NN, 0, none⟩), .pointer (some ⟨NL, 0, none⟩)] w fun e w' => e = .returned (.bool (nedB needs log x)) ∧ Hid (Below w.heap.size w w') := by
  obtain ⟨h1, h2, h3, h4⟩ := h
  have h4 := h4.at
  have HS : Hid (SetN w b needs) := h3
  have HX : Hid ((∀ y ∈ x, 0 ≤ y ∧ y ≤ 255) ∧ x.length ≤ maxLen) := ⟨hx, by unfold maxLen; omega⟩
  have HL : Hid (w.cell? ⟨NL, 0, none⟩ = some (.int .i64 log)) := h2
  have hnl := World.block_lt_of_cell? w _ h2
  obtain ⟨k, n, pb, hp, hlog⟩ := parR_log log x
  have HP : Hid (∀ w', Below w.heap.size w w' → Calls Tryd.prog 7 #[.string (strOfNums x)] w' fun e w'' => e = .returned (.tuple #[.int .u8 k, .int .i64 n, .bool pb]) ∧ Below w'.heap.size w' w'') := by
    intro w' hb
    have := parse_any x hx hm w' (h4.up hb)
    rw [hp] at this
    exact this
  clear h4 h3 hx hm hp
  have hz : (zeroValue 68).run Tryd.prog w = .ok (.agg #[]) w := zero68 w
  cases hd : decide (x ∈ needs) with
  | true =>
    have HR : Hid (nedB needs log x = true) := by unfold Hid nedB; rw [hd]; rfl
    generalize nedB needs log x = R at *
    clear hlog HP
    go_enter Tryd.func23, Tryd.ntmps23
    go_wp2_with (first | (at_lookup; refine wpList_setN_look _ rfl _ _ rfl b needs rfl HS.out x HX.out.1 HX.out.2 rfl ?_; rw [hd]) | fail)
    go_ret
    exact ⟨ret_bool HR.out.symm, up_alloc _ _⟩
  | false =>
    have HR : Hid (nedB needs log x = (pb && (decide (k = 108) && decide (log ≤ n)))) := by unfold Hid nedB; rw [hd, hlog]; rfl
    generalize nedB needs log x = R at *
    clear hlog
    cases pb
    · go_enter Tryd.func23, Tryd.ntmps23
      go_wp2_with (first | (at_lookup; refine wpList_setN_look _ rfl _ _ rfl b needs rfl HS.out x HX.out.1 HX.out.2 rfl ?_; rw [hd]) | fail)
      refine (HP.out _ (up_alloc _ _)).mono ?_
      rintro e w1 ⟨rfl, hb⟩
      have UB : Hid (Below w.heap.size w w1) := (up_alloc _ _).trans (hb.mono (up_alloc w _).size)
      clear hb
      go_wp2_with fail
      go_ret
      exact ⟨ret_bool HR.out.symm, UB.out⟩
    · by_cases ck : k = 108
      · subst ck
        go_enter Tryd.func23, Tryd.ntmps23
        go_wp2_with (first | (at_lookup; refine wpList_setN_look _ rfl _ _ rfl b needs rfl HS.out x HX.out.1 HX.out.2 rfl ?_; rw [hd]) | fail)
        refine (HP.out _ (up_alloc _ _)).mono ?_
        rintro e w1 ⟨rfl, hb⟩
        have UB : Hid (Below w.heap.size w w1) := (up_alloc _ _).trans (hb.mono (up_alloc w _).size)
        have hl1 : w1.cell? ⟨NL, 0, none⟩ = some (.int .i64 log) := (UB.out.cell (p := ⟨NL, 0, none⟩) hnl).trans HL.out
        clear hb
        go_wp2_with fail
        go_ret
        refine ⟨ret_bool ?_, UB.out⟩
        rw [HR.out]
        simp
      · have ckf : (k == 108) = false := by simpa using ck
        have HR2 : Hid (R = false) := by unfold Hid; rw [HR.out]; simp [ck]
        go_enter Tryd.func23, Tryd.ntmps23
        go_wp2_with (first | (at_lookup; refine wpList_setN_look _ rfl _ _ rfl b needs rfl HS.out x HX.out.1 HX.out.2 rfl ?_; rw [hd]) | fail)
        refine (HP.out _ (up_alloc _ _)).mono ?_
        rintro e w1 ⟨rfl, hb⟩
        have UB : Hid (Below w.heap.size w w1) := (up_alloc _ _).trans (hb.mono (up_alloc w _).size)
        clear hb HR
        go_wp2_with fail
        go_ret
        exact ⟨ret_bool HR2.out.symm, UB.out⟩
end Go.Proofs.YtnchjlimkgbfpaaDoor
