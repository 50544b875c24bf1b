/- The texts M2, R1, R2, R3, R4, M3, M4, U3, R5, R6, in this order. -/
import Derived.Test.YtnchjlimkgbfpaaGreatDoorZ11
import Derived.Test.YtnchjlimkgbfpaaGreatDoorU2
import Derived.Lib.SlBytesConst

namespace Go.Proofs.YtnchjlimkgbfpaaGreatDoor
open Go.RowKit
set_option linter.unusedVariables false
set_option maxRecDepth 20000
theorem fold_le : ∀ (m acc : List Int), (m.foldl addId acc).length ≤ acc.length + m.length
  | [], acc => by simp
  | x :: r, acc => by
    have h := fold_le r (addId acc x)
    have h2 : (addId acc x).length ≤ acc.length + 1 := by
      unfold addId
      split <;> simp
    simp only [List.foldl_cons, List.length_cons]
    omega
theorem fold_nodup : ∀ (m acc : List Int), acc.Nodup → (m.foldl addId acc).length = acc.length + m.length → (acc ++ m).Nodup
  | [], acc, h, _ => by simpa using h
  | x :: r, acc, h, e => by
    simp only [List.foldl_cons, List.length_cons] at e
    by_cases c : acc.contains x = true
    · have ha : addId acc x = acc := by unfold addId; rw [if_pos c]
      rw [ha] at e
      have := fold_le r acc
      omega
    · have ha : addId acc x = acc ++ [x] := by unfold addId; rw [if_neg c]
      have hn := addId_nodup h x
      rw [ha] at e hn
      have := fold_nodup r (acc ++ [x]) hn (by rw [e]; simp; omega)
      simpa using this
theorem fold_len : ∀ (m acc : List Int), (acc ++ m).Nodup → (m.foldl addId acc).length = acc.length + m.length
  | [], acc, _ => by simp
  | x :: r, acc, h => by
    have hx : ¬ acc.contains x = true := by
      intro q
      have q' : x ∈ acc := by simpa using q
      rw [List.nodup_append] at h
      exact h.2.2 x q' x (by simp) rfl
    have ha : addId acc x = acc ++ [x] := by unfold addId; rw [if_neg hx]
    simp only [List.foldl_cons, List.length_cons]
    rw [ha, fold_len r (acc ++ [x]) (by simpa using h)]
    simp
    omega
theorem ids_nodup (l : List (List Int × Int)) : (idsOf l).length = l.length ↔ (l.map (·.2)).Nodup := by
  unfold idsOf
  constructor
  · intro h
    have := fold_nodup (l.map (·.2)) [] (by simp) (by rw [h]; simp)
    simpa using this
  · intro h
    rw [fold_len (l.map (·.2)) [] (by simpa using h)]
    simp
structure NamesGood (fs : List (Int × List Int × Int)) (l : List (List Int × Int)) : Prop where
  may : ∀ p ∈ l, mayOf p.1 = true
  rise : l.Pairwise fun a b => lessL a.1 b.1 = true
  ids : ∀ p ∈ l, p.2 ∈ fs.map (·.1)
  once : (l.map (·.2)).Nodup
structure Nearly (s : St) : Prop where
  cap0 : 0 ≤ s.cap
  cap1 : s.cap ≤ 16777216
  next0 : 1 ≤ s.next
  next1 : s.next ≤ 2147483647
  few : s.files.length ≤ 256
  rise : s.files.Pairwise fun a b => a.1 < b.1
  ids : ∀ f ∈ s.files, 1 ≤ f.1 ∧ f.1 < s.next
  sync : ∀ f ∈ s.files, 0 ≤ f.2.2 ∧ f.2.2 ≤ (f.2.1.length : Int)
  used : usedOf s.files ≤ s.cap
  names : NamesGood s.files s.names
  safe : NamesGood s.files s.safe
structure Good (s : St) : Prop extends Nearly s where
  all : ∀ f ∈ s.files, f.1 ∈ s.names.map (·.2) ∨ f.1 ∈ s.safe.map (·.2)
theorem files_nodup {fs : List (Int × List Int × Int)} (h : fs.Pairwise fun a b => a.1 < b.1) : (fs.map (·.1)).Nodup := by
  unfold List.Nodup
  rw [List.pairwise_map]
  exact h.imp fun hab e => by omega
theorem riseF_pairwise {fs : List (Int × List Int × Int)} : RiseF fs ↔ fs.Pairwise fun a b => a.1 < b.1 := by
  rw [List.pairwise_iff_getElem]
  unfold RiseF
  constructor
  · intro h i j hi hj hij
    have := h i j hij hj
    simpa [List.getD, hi, hj] using this
  · intro h a b hab hb
    have := h a b (by omega) hb hab
    simpa [List.getD, hb, (show a < fs.length by omega)] using this
theorem riseN_pairwise {l : List (List Int × Int)} : RiseN l ↔ l.Pairwise fun a b => lessL a.1 b.1 = true := by
  rw [List.pairwise_iff_getElem]
  unfold RiseN
  constructor
  · intro h i j hi hj hij
    have := h i j hij hj
    simpa [List.getD, hi, hj] using this
  · intro h a b hab hb
    have := h a b (by omega) hb hab
    simpa [List.getD, hb, (show a < l.length by omega)] using this
theorem takeWhile_all {A : Type} {p : A → Bool} {l r : List A} (h : ∀ x ∈ l, p x = true) : (l ++ r).takeWhile p = l ++ r.takeWhile p := by
  induction l with
  | nil => rfl
  | cons x l ih => simp [h x (by simp), ih (fun y hy => h y (by simp [hy]))]
theorem thereF_of_mem {fs : List (Int × List Int × Int)} {id : Int} (h : fs.Pairwise fun a b => a.1 < b.1) (hm : id ∈ fs.map (·.1)) : thereF fs id = true := by
  obtain ⟨f, hf, rfl⟩ := List.mem_map.1 hm
  obtain ⟨l, r, rfl⟩ := List.append_of_mem hf
  have hl : ∀ x ∈ l, decide (x.1 < f.1) = true := by
    intro x hx
    rw [List.pairwise_append] at h
    simpa using h.2.2 x hx f (by simp)
  have hr : rankF (l ++ f :: r) f.1 = l.length := by
    unfold rankF rankOf
    rw [takeWhile_all hl]
    simp
  unfold thereF
  rw [hr]
  simp [List.getD]
theorem check_good {s : St} (h : checkP s = true) : Good s := by
  obtain ⟨h1, h2, h3, h4, h5⟩ := check_parts h
  have hso := check_sound h
  have hrise := riseF_pairwise.1 hso.1.2.2.2.2
  unfold boundsOf at h1
  simp only [Bool.and_eq_true, decide_eq_true_eq] at h1
  have hfile : ∀ f ∈ s.files, (1 ≤ f.1 ∧ f.1 < s.next) ∧ 0 ≤ f.2.2 ∧ f.2.2 ≤ (f.2.1.length : Int) := by
    intro f hf
    obtain ⟨i, hi, rfl⟩ := List.getElem_of_mem hf
    have hok := filesMay_ok h2 i hi
    unfold okFile at hok
    simp only [Bool.and_eq_true, decide_eq_true_eq] at hok
    have e : s.files.getD i (0, [], 0) = s.files[i] := by simp [List.getD, hi]
    rw [e] at hok
    have hp : 0 ≤ prevId s.files i := by
      clear hok e
      induction i with
      | zero => simp [prevId]
      | succ i ih =>
        have hok := filesMay_ok h2 i (by omega)
        unfold okFile at hok
        simp only [Bool.and_eq_true, decide_eq_true_eq] at hok
        have := ih (by omega) (List.getElem_mem _)
        unfold prevId
        rw [if_neg (by omega)]
        simp only [Nat.add_sub_cancel]
        omega
    exact ⟨⟨by omega, hok.1.1.2⟩, hok.1.2, hok.2⟩
  have hused : usedOf s.files ≤ s.cap := by
    unfold filesMayOf at h2
    simp only [Bool.and_eq_true, decide_eq_true_eq] at h2
    exact h2.2
  have hnames : ∀ l, namesMayOf s.files l = true → NamesGood s.files l := by
    intro l hl
    refine ⟨?_, riseN_pairwise.1 (names_rise hl), fun p hp => thereF_mem (names_there hl p hp), (ids_nodup l).1 (names_ok hl).2⟩
    intro p hp
    obtain ⟨k, hk, rfl⟩ := List.getElem_of_mem hp
    have := (names_ok hl).1 k hk
    unfold okNameP nameAt at this
    simp only [Bool.and_eq_true] at this
    have e : l.getD k ([], 0) = l[k] := by simp [List.getD, hk]
    rw [e] at this
    exact this.1.1
  refine ⟨⟨h1.1.1.1.1, h1.1.1.1.2, h1.1.1.2, h1.1.2, h1.2, hrise, fun f hf => (hfile f hf).1, fun f hf => (hfile f hf).2, hused, hnames _ h3, hnames _ h4⟩, ?_⟩
  intro f hf
  unfold allNamedOf at h5
  simp only [decide_eq_true_eq] at h5
  have hin : f.1 ∈ idsOf (s.names ++ s.safe) := by
    apply Classical.byContradiction
    intro hno
    have hsub : ∀ x ∈ idsOf (s.names ++ s.safe), x ∈ (s.files.map (·.1)).erase f.1 := by
      intro x hx
      have hne : x ≠ f.1 := fun e => hno (e ▸ hx)
      rw [List.mem_erase_of_ne hne]
      obtain ⟨p, hp, rfl⟩ := (mem_idsOf _ x).1 hx
      rcases List.mem_append.1 hp with hp | hp
      · exact (hnames _ h3).ids p hp
      · exact (hnames _ h4).ids p hp
    have hle := nodup_le _ _ (idsOf_nodup _) hsub
    have hmem : f.1 ∈ s.files.map (·.1) := List.mem_map.2 ⟨f, hf, rfl⟩
    rw [List.length_erase_of_mem hmem, List.length_map] at hle
    have hpos : 0 < s.files.length := List.length_pos_of_mem hf
    omega
  obtain ⟨p, hp, e⟩ := (mem_idsOf _ _).1 hin
  rcases List.mem_append.1 hp with hp | hp
  · exact .inl (List.mem_map.2 ⟨p, hp, e⟩)
  · exact .inr (List.mem_map.2 ⟨p, hp, e⟩)
theorem good_names {fs : List (Int × List Int × Int)} {l : List (List Int × Int)} (hr : fs.Pairwise fun a b => a.1 < b.1) (h : NamesGood fs l) : namesMayOf fs l = true := by
  unfold namesMayOf
  simp only [Bool.and_eq_true, decide_eq_true_eq]
  refine ⟨?_, (ids_nodup l).2 h.once⟩
  rw [List.all_eq_true]
  intro i hi
  rw [List.mem_range] at hi
  unfold okNameP nameAt
  have e : l.getD i ([], 0) = l[i] := by simp [List.getD, hi]
  rw [e]
  simp only [Bool.and_eq_true, Bool.or_eq_true, decide_eq_true_eq]
  refine ⟨⟨h.may _ (List.getElem_mem _), ?_⟩, thereF_of_mem hr (h.ids _ (List.getElem_mem _))⟩
  rcases Nat.eq_zero_or_pos i with q | q
  · exact .inl q
  · refine .inr ?_
    have := riseN_pairwise.2 h.rise (i - 1) i (by omega) hi
    rw [e] at this
    exact this
theorem good_check {s : St} (h : Good s) : checkP s = true := by
  unfold checkP
  simp only [Bool.and_eq_true]
  refine ⟨⟨⟨⟨?_, ?_⟩, good_names h.rise h.names⟩, good_names h.rise h.safe⟩, ?_⟩
  · unfold boundsOf
    simp only [Bool.and_eq_true, decide_eq_true_eq]
    exact ⟨⟨⟨⟨h.cap0, h.cap1⟩, h.next0⟩, h.next1⟩, h.few⟩
  · unfold filesMayOf
    simp only [Bool.and_eq_true, decide_eq_true_eq]
    refine ⟨?_, h.used⟩
    rw [List.all_eq_true]
    intro i hi
    rw [List.mem_range] at hi
    unfold okFile
    have e : s.files.getD i (0, [], 0) = s.files[i] := by simp [List.getD, hi]
    rw [e]
    simp only [Bool.and_eq_true, decide_eq_true_eq]
    have hm := List.getElem_mem (l := s.files) hi
    refine ⟨⟨⟨?_, (h.ids _ hm).2⟩, (h.sync _ hm).1⟩, (h.sync _ hm).2⟩
    unfold prevId
    split
    · have := (h.ids _ hm).1
      omega
    · have := riseF_pairwise.2 h.rise (i - 1) i (by omega) hi
      rw [e] at this
      exact this
  · unfold allNamedOf
    simp only [decide_eq_true_eq]
    have hsub : ∀ x ∈ idsOf (s.names ++ s.safe), x ∈ s.files.map (·.1) := by
      intro x hx
      obtain ⟨p, hp, rfl⟩ := (mem_idsOf _ x).1 hx
      rcases List.mem_append.1 hp with hp | hp
      · exact h.names.ids p hp
      · exact h.safe.ids p hp
    have h1 := nodup_le _ _ (idsOf_nodup _) hsub
    have h2 := nodup_le (s.files.map (·.1)) (idsOf (s.names ++ s.safe)) (files_nodup h.rise) (by
      intro x hx
      obtain ⟨f, hf, rfl⟩ := List.mem_map.1 hx
      rw [mem_idsOf]
      rcases h.all f hf with q | q
      · obtain ⟨p, hp, e⟩ := List.mem_map.1 q
        exact ⟨p, List.mem_append.2 (.inl hp), e⟩
      · obtain ⟨p, hp, e⟩ := List.mem_map.1 q
        exact ⟨p, List.mem_append.2 (.inr hp), e⟩)
    rw [List.length_map] at h1 h2
    omega
theorem check_iff (s : St) : checkP s = true ↔ Good s := ⟨check_good, good_check⟩
end Go.Proofs.YtnchjlimkgbfpaaGreatDoor

namespace Go.Proofs.YtnchjlimkgbfpaaGreatDoor
open Go.RowKit
set_option linter.unusedVariables false
set_option maxRecDepth 20000
set_option linter.unusedSimpArgs false
def z0 : St := ⟨0, [], [], [], 0⟩
theorem OwnV.zero (w : World) (base : Nat) (c n : Int) (hc : In64 c) (hn : In64 n) : OwnV w base (.agg #[.int .i64 c, .slice none 0 0, .slice none 0 0, .slice none 0 0, .int .i64 n]) ⟨c, [], [], [], n⟩ :=
  ⟨_, _, _, [], rfl, rfl, ⟨OwnR.nil _ _ _ _, (fun y hy => by cases hy), List.Pairwise.nil⟩, OwnN.nil _ _ _, OwnN.nil _ _ _, .inl rfl, hc, hn⟩
theorem OwnS.take {w : World} {base B : Nat} {s : St} (h : OwnS w base B s) : ∃ vf vn vs, w.heap[B]? = some (.cells #[.int .i64 s.cap, vf, vn, vs, .int .i64 s.next] 35) ∧ OwnV w base (.agg #[.int .i64 s.cap, vf, vn, vs, .int .i64 s.next]) s := by
  obtain ⟨_, vf, vn, vs, m, hb, hm, of, on, os, hap, hi1, hi2⟩ := h
  exact ⟨vf, vn, vs, hb, vf, vn, vs, m, rfl, hm, of, on, os, hap, hi1, hi2⟩
theorem OwnV.put {w : World} {base : Nat} {s : St} {a b c d e : Value} (h : OwnV w base (.agg #[a, b, c, d, e]) s) {N : Nat} {x0 x1 x2 x3 x4 : Value} (hb : w.heap[N]? = some (.cells #[x0, x1, x2, x3, x4] 35)) :
    OwnS (set5 w N a b c d e) base N s ∧ OwnV (set5 w N a b c d e) base (.agg #[a, b, c, d, e]) s := by
  obtain ⟨vf, vn, vs, m, ev, hm, of, on, os, hap, hi1, hi2⟩ := h
  have g5 := set5_grown w N a b c d e
  have b5 := set5_blk hb a b c d e
  simp at ev
  obtain ⟨rfl, rfl, rfl, rfl, rfl⟩ := ev
  have of5 := of.far g5 (own_blk_ne of.1.2 hb (by decide)) (fun y hy => own_blk_ne (of.2.1 y hy).1 hb (by decide))
  have on5 := on.far g5 (own_blk_ne on.2.2 hb (by decide))
  have os5 := os.far g5 (own_blk_ne os.2.2 hb (by decide))
  exact ⟨⟨trivial, _, _, _, m, b5, hm, of5, on5, os5, hap, hi1, hi2⟩, ⟨_, _, _, m, rfl, hm, of5, on5, os5, hap, hi1, hi2⟩⟩
theorem OwnV.shape {w : World} {base : Nat} {v : Value} {s : St} (h : OwnV w base v s) : ∃ af nf cf an nn cn as' ns cs', v = .agg #[.int .i64 s.cap, .slice af nf cf, .slice an nn cn, .slice as' ns cs', .int .i64 s.next] := by
  obtain ⟨vf, vn, vs, m, rfl, hm, of, on, os, hap, hi1, hi2⟩ := h
  obtain ⟨a1, c1, e1, _, _⟩ := (NamesW.own on).len
  obtain ⟨a2, c2, e2, _, _⟩ := (NamesW.own os).len
  obtain ⟨a3, c3, e3, _, _⟩ := (Rws.own of.1).len
  subst e1
  subst e2
  subst e3
  exact ⟨_, _, _, _, _, _, _, _, _, rfl⟩
theorem StW.shape {w : World} {v : Value} {s : St} (h : StW w v s) : ∃ af nf cf an nn cn as' ns cs', v = .agg #[.int .i64 s.cap, .slice af nf cf, .slice an nn cn, .slice as' ns cs', .int .i64 s.next] := by
  obtain ⟨vf, vn, vs, rfl, hf, hn, hs, hi1, hi2⟩ := h
  obtain ⟨a1, c1, e1, _, _⟩ := hn.len
  obtain ⟨a2, c2, e2, _, _⟩ := hs.len
  obtain ⟨a3, c3, e3, _, _⟩ := hf.len
  subst e1
  subst e2
  subst e3
  exact ⟨_, _, _, _, _, _, _, _, _, rfl⟩
end Go.Proofs.YtnchjlimkgbfpaaGreatDoor

namespace Go.Proofs.YtnchjlimkgbfpaaGreatDoor
open Go.RowKit
set_option linter.unusedVariables false
set_option maxRecDepth 20000
set_option linter.unusedSimpArgs false
def readP (s : St) (name : List Int) : List Int × Int := if checkP s then (if hasF s name then ((fileD s (idxF s name)).2.1, 0) else ([], 71)) else ([], 9)
def listP (s : St) : List (List Int) × Int := if checkP s then (s.names.map (·.1), 0) else ([], 9)
def srow (t : List Int) : List Value := [.string (strOfNums t)]
theorem Tryz.info9 : (Tryz.prog.info? 9).map (fun i => (i.zero, i.size, i.bytes)) = some (some (.string ⟨#[]⟩), 1, 16) := by kernel_rfl
set_option maxHeartbeats 2000000 in
set_option maxRecDepth 20000 in
theorem list_any (s : St) (v : Value) (w : World) (hv : StW w v s) (hl : s.names.length + s.safe.length ≤ 9223372036854775807) :
    Calls Tryz.prog 33 #[v] w fun e w' => ∃ v', e = .returned (.tuple #[v', .int .i64 (listP s).2]) ∧ OwnR w' w.heap.size 9 1 v' ((listP s).1.map srow) ∧ Below w.heap.size w w' := by
  obtain ⟨af, nf, cf, an, nn, cn, as', ns, cs', ev⟩ := hv.shape
  subst ev
  obtain ⟨wx, hwx⟩ : ∃ wx, wx = w.alloc (.cells #[.int .i64 s.cap, .slice af nf cf, .slice an nn cn, .slice as' ns cs', .int .i64 s.next] 35) := ⟨_, rfl⟩
  have HX : Hid (w.alloc (.cells #[.int .i64 s.cap, .slice af nf cf, .slice an nn cn, .slice as' ns cs', .int .i64 s.next] 35) = wx) := hwx.symm
  have bx : Hid (BoxW w (.cells #[.int .i64 s.cap, .slice af nf cf, .slice an nn cn, .slice as' ns cs', .int .i64 s.next] 35) wx) := by rw [hwx]; exact BoxW.start _ _
  have HS : Hid (StW w (.agg #[.int .i64 s.cap, .slice af nf cf, .slice an nn cn, .slice as' ns cs', .int .i64 s.next]) s) := hv
  clear hv hwx
  go_enter Tryz.func33, Tryz.ntmps33
  go_upto_region 1 with fail
  rw [HX.out]
  clear HX
  have q0 := bx.out.cell 0 _ rfl
  have q1 := bx.out.cell 1 _ rfl
  have q2 := bx.out.cell 2 _ rfl
  have q3 := bx.out.cell 3 _ rfl
  have q4 := bx.out.cell 4 _ rfl
  have hc := check_any s _ wx (HS.out.up bx.out.up) hl
  cases hchk : checkP s with
  | false =>
    have HR : Hid (listP s = ([], 9)) := by unfold Hid listP; rw [hchk]; rfl
    rw [hchk] at hc
    have he : errOf false = 9 := rfl
    rw [he] at hc
    clear hchk he
    go_wp2_with fail
    refine hc.mono ?_
    rintro e w1 ⟨rfl, u1⟩
    have up1 : Hid (Below w.heap.size w w1) := up_trans bx.out.up u1
    clear u1 hc q0 q1 q2 q3 q4
    go_wp2_with fail
    go_ret2
    rw [HR.out]
    exact ⟨_, rfl, OwnR.nil _ _ _ _, up1.out⟩
  | true =>
    have HSo : Hid (Sound s) := check_sound hchk
    have HR : Hid (listP s = (s.names.map (·.1), 0)) := by unfold Hid listP; rw [hchk]; rfl
    rw [hchk] at hc
    have he : errOf true = 0 := rfl
    rw [he] at hc
    clear hchk he
    go_wp2_with fail
    refine hc.mono ?_
    rintro e w1 ⟨rfl, u1⟩
    have bx1 : Hid (BoxW w (.cells #[.int .i64 s.cap, .slice af nf cf, .slice an nn cn, .slice as' ns cs', .int .i64 s.next] 35) w1) := bx.out.step u1
    clear u1 hc q0 q1 q2 q3 q4
    have q2 := bx1.out.cell 2 _ rfl
    have hst := HS.out.up bx1.out.up
    obtain ⟨vf, vn, vs, ev, hf, hn, hs, hi1, hi2⟩ := hst
    simp at ev
    obtain ⟨rfl, rfl, rfl⟩ := ev
    obtain ⟨x1, x2, en, _, _⟩ := hn.len
    injection en with en1 en2 en3
    subst en2
    clear en1 en3
    have HN : Hid (NamesW w1 (.slice an s.names.length cn) s.names) := hn
    have hln := HSo.out.1.2.1
    clear hf hn hs hi1 hi2
    go_wp2_with fail
    clear q2
    go_loopw [5, 16] (fun vb i wr => ∃ k : Nat, k ≤ s.names.length ∧ i = .int .i64 k ∧ Hid (OwnR wr w1.heap.size 9 1 vb (((s.names.take k).map (·.1)).map srow)) ∧ Hid (Below w1.heap.size w1 wr)) (fun _ i _ => s.names.length - (intOf i).toNat)
    case atStart => exact ⟨0, Nat.zero_le _, rfl, OwnR.nil _ _ _ _, Below.refl _ _⟩
    case round =>
      obtain ⟨k, hk, rfl, HO, up⟩ := hrel
      by_cases hlt : k < s.names.length
      · have hlt' : (k : Int) < (s.names.length : Int) := by omega
        obtain ⟨b, off, cap', e, _, _, c0, c1, ho, _, hi'⟩ := (HN.out.up up.out).at k hlt
        simp at e
        obtain ⟨rfl, rfl⟩ := e
        have HT : Hid (s.names.take (k + 1) = s.names.take k ++ [s.names.getD k ([], 0)]) := take_snoc s.names k _ hlt
        have HKl : Hid ((((s.names.take k).map (·.1)).map srow).length = k) := by simp [Hid]; omega
        generalize s.names.getD k ([], 0) = y at *
        obtain ⟨ys, yi⟩ := y
        simp only at c0 c1 HT
        have hsz1 := bx1.out.up.size
        have hsz2 := up.out.size
        obtain ⟨vl, cl, ev5, _, _⟩ := (Rws.own HO.out).len
        subst ev5
        rw [HKl.out] at HO ⊢
        have HOx : Hid (OwnR (wr.alloc (.cells #[.string (strOfNums ys), .int .i64 yi] 146)) w1.heap.size 9 1 (.slice vl k cl) (((s.names.take k).map (·.1)).map srow)) := HO.out.up (up_al (Below.refl _ _) _)
        go_wp2_with (at_builtin; refine wpList_append_row (wr.alloc (.cells #[.string (strOfNums ys), .int .i64 yi] 146)) rfl (.tmp 20) (.tmp 23) 62 9 (.string ⟨#[]⟩) 1 16 rfl Tryz.underlying62 Tryz.info9 rfl (by decide) w1.heap.size (.slice vl k cl) _ rfl HOx.out (srow ys) _ (wr.heap.size + 1) ?n1 rfl rfl rfl ?n2 ?n3 ?n4 ?n5 ?_)
        try case n1 => ((try simp))
        try case n2 => (intro u hu; simp [srow] at hu; subst hu; rfl)
        try case n3 => ((try rw [HKl.out]); omega)
        try case n4 => ((try rw [HKl.out]); unfold maxLen; omega)
        try case n5 => ((try simp); omega)
        intro v6 w6 o6 b6
        have HO6 : Hid (OwnR w6 w1.heap.size 9 1 v6 (((s.names.take (k + 1)).map (·.1)).map srow)) := by
          unfold Hid
          rw [HT.out, List.map_append, List.map_append]
          simpa using o6
        have HU6 : Hid (Below w1.heap.size w1 w6) := (up_al up.out _).trans b6
        clear o6 b6
        go_wp2_with fail
        exact ⟨⟨k + 1, by omega, by go_num, HO6, HU6⟩, by simp [intOf]; omega⟩
      · have hlt' : ¬ (k : Int) < (s.names.length : Int) := by omega
        obtain rfl : k = s.names.length := by omega
        rw [List.take_length] at HO
        have HO6 := HO
        go_wp2_with fail
        go_ret2
        rw [HR.out]
        exact ⟨_, rfl, HO6.out.mono bx1.out.up.size, up_trans bx1.out.up up.out⟩
end Go.Proofs.YtnchjlimkgbfpaaGreatDoor

namespace Go.Proofs.YtnchjlimkgbfpaaGreatDoor
open Go.RowKit
set_option linter.unusedVariables false
set_option maxRecDepth 20000
set_option linter.unusedSimpArgs false
def leftN (f : Int × List Int × Int) (more : Int) : Int := f.2.2 + min (max more 0) ((f.2.1.length : Int) - f.2.2)
def cutF (f : Int × List Int × Int) (more : Int) : Int × List Int × Int := (f.1, f.2.1.take (leftN f more).toNat, leftN f more)
theorem own_take {w : World} {base : Nat} {e : TypeId} {sz g n cap : Nat} {css : List (List Value)} (h : OwnR w base e sz (.slice (some ⟨g, 0, none⟩) n cap) css) (k : Nat) (hk : k ≤ n) : OwnR w base e sz (.slice (some ⟨g, 0, none⟩) k cap) (css.take k) := by
  obtain ⟨cur, hh, hb, hn, hm, hs, ht, hl⟩ := h.blk
  have hf : k * sz + ([] : List Value).length ≤ cur.size := by
    rw [hs, List.length_nil, Nat.add_zero]
    exact Nat.mul_le_mul_right _ (by omega)
  refine h.firstOver k hk cur hh [] hf ?_
  rw [over_nil]
  simpa using hh
theorem OwnB.take {w : World} {base : Nat} {a : Option Addr} {n c : Nat} {l : List Int} (h : OwnB w base (.slice a n c) l) (k : Nat) (hk : k ≤ l.length) : OwnB w base (.slice a k c) (l.take k) := by
  have hn : l.length = n := by
    rcases h.2 with ⟨e, e2⟩ | ⟨g, cap, cur, e, _⟩
    · injection e with _ e3 _
      omega
    · injection e with _ e3 _
      exact e3.symm
  rcases h.2 with ⟨e, e2⟩ | ⟨g, cap, cur, e, _⟩
  · injection e with e1 e3 e4
    have hl : l = [] := List.length_eq_zero_iff.1 e2
    have hk0 : k = 0 := by omega
    subst hl
    subst hk0
    subst e1
    subst e4
    exact OwnB.nil _ _
  · injection e with e1 e3 e4
    subst e1
    have h2 := own_take h.rows k (by omega)
    rw [← List.map_take] at h2
    exact h2.octs
end Go.Proofs.YtnchjlimkgbfpaaGreatDoor

namespace Go.Proofs.YtnchjlimkgbfpaaGreatDoor
open Go.RowKit
set_option linter.unusedVariables false
set_option maxRecDepth 20000
set_option linter.unusedSimpArgs false
def IntsW (w : World) (v : Value) (l : List Int) : Prop := (∀ x ∈ l, In64 x) ∧ Rws 1 w v (l.map fun x => [Value.int .i64 x])
theorem IntsW.up {w w' : World} {v : Value} {l : List Int} (h : IntsW w v l) (hb : Below w.heap.size w w') : IntsW w' v l := ⟨h.1, h.2.up hb⟩
theorem IntsW.len {w : World} {v : Value} {l : List Int} (h : IntsW w v l) : ∃ a cap, v = .slice a l.length cap ∧ l.length ≤ cap ∧ cap ≤ maxLen := by
  obtain ⟨a, cap, e, h1, h2⟩ := h.2.len
  rw [List.length_map] at e h1
  exact ⟨a, cap, e, h1, h2⟩
theorem IntsW.at {w : World} {v : Value} {l : List Int} (h : IntsW w v l) (k : Nat) (hk : k < l.length) : ∃ b off cap, v = .slice (some ⟨b, off, none⟩) l.length cap ∧ w.cell? ⟨b, off + k, none⟩ = some (.int .i64 (l.getD k 0)) ∧ In64 (l.getD k 0) := by
  obtain ⟨b, off, cap, e, h1, h2, hc⟩ := h.2.at k (by rw [List.length_map]; exact hk)
  rw [List.length_map] at e
  have hr : (l.map fun x => [Value.int .i64 x]).getD k [] = [Value.int .i64 (l.getD k 0)] := by simp [List.getD, hk]
  rw [hr] at hc
  have c0 := hc 0 _ rfl
  simp only [Nat.mul_one, Nat.add_zero] at c0
  exact ⟨b, off, cap, e, c0, h.1 _ (by simp [List.getD, hk])⟩
def cutTo (keep : List Int) (l : List (Int × List Int × Int)) (k : Nat) : List (Int × List Int × Int) := l.mapIdx fun i f => if i < k then cutF f (keep.getD i 0) else f
def crashP (s : St) (keep : List Int) : St × Int := if checkP s then (sweptOf { s with files := cutTo keep s.files s.files.length, names := s.safe }, 0) else (z0, 9)
end Go.Proofs.YtnchjlimkgbfpaaGreatDoor

namespace Go.Proofs.YtnchjlimkgbfpaaGreatDoor
open Go.RowKit
set_option linter.unusedVariables false
set_option maxRecDepth 20000
theorem stands_iff (l : List (List Int × Int)) (x : Int) : standsOf l x = true ↔ x ∈ l.map (·.2) := by
  unfold standsOf
  rw [List.any_eq_true, List.mem_map]
  constructor
  · rintro ⟨p, hp, e⟩
    exact ⟨p, hp, by simpa using e⟩
  · rintro ⟨p, hp, e⟩
    exact ⟨p, hp, by simpa using e⟩
theorem NamesGood.over {fs fs' : List (Int × List Int × Int)} {l : List (List Int × Int)} (h : NamesGood fs l) (hs : ∀ p ∈ l, p.2 ∈ fs'.map (·.1)) : NamesGood fs' l := ⟨h.may, h.rise, hs, h.once⟩
end Go.Proofs.YtnchjlimkgbfpaaGreatDoor

namespace Go.Proofs.YtnchjlimkgbfpaaGreatDoor
open Go.RowKit
set_option linter.unusedVariables false
set_option maxRecDepth 20000
theorem rank_take {A : Type} (p : A → Bool) (l : List A) : l.take (rankOf p l) = l.takeWhile p := by
  have h : l.takeWhile p ++ l.dropWhile p = l := List.takeWhile_append_dropWhile
  unfold rankOf
  generalize l.takeWhile p = a at *
  generalize l.dropWhile p = b at *
  subst h
  simp
theorem mem_tw {A : Type} {p : A → Bool} : ∀ {l : List A} {x : A}, x ∈ l.takeWhile p → p x = true
  | [], x, h => by simp at h
  | y :: l, x, h => by
    rw [List.takeWhile_cons] at h
    split at h
    · rename_i hy
      rcases List.mem_cons.1 h with rfl | h
      · exact hy
      · exact mem_tw h
    · simp at h
end Go.Proofs.YtnchjlimkgbfpaaGreatDoor

namespace Go.Proofs.YtnchjlimkgbfpaaGreatDoor
open Go.RowKit
set_option linter.unusedVariables false
set_option maxRecDepth 20000
theorem place_iff {A : Type} (p : A → Bool) (l : List A) : 0 ≤ placeOf p l ↔ ∃ x ∈ l, p x = true := by
  induction l with
  | nil => simp [placeOf]
  | cons x l ih =>
    simp only [placeOf]
    by_cases c : p x = true
    · rw [if_pos c]
      exact ⟨fun _ => ⟨x, by simp, c⟩, fun _ => by omega⟩
    · rw [if_neg c]
      have hg := (placeOf_ge p l).1
      by_cases d : placeOf p l = -1
      · rw [if_pos d]
        rw [d] at ih
        constructor
        · intro h; omega
        · rintro ⟨y, hy, hp⟩
          rcases List.mem_cons.1 hy with rfl | hy
          · exact absurd hp c
          · exact ih.2 ⟨y, hy, hp⟩
      · rw [if_neg d]
        constructor
        · intro h
          obtain ⟨y, hy, hp⟩ := ih.1 (by omega)
          exact ⟨y, by simp [hy], hp⟩
        · rintro ⟨y, hy, hp⟩
          omega
theorem file_iff (fs : List (Int × List Int × Int)) (id : Int) : 0 ≤ fileOf fs id ↔ id ∈ fs.map (·.1) := by
  unfold fileOf
  rw [place_iff, List.mem_map]
  constructor
  · rintro ⟨x, hx, h⟩
    exact ⟨x, hx, by simpa using h⟩
  · rintro ⟨x, hx, h⟩
    exact ⟨x, hx, by simpa using h⟩
theorem rise_step {l : List (List Int × Int)} (h : ∀ i, i < l.length → 0 < i → lessL (nameAt l (i - 1)).1 (nameAt l i).1 = true) : RiseN l := by
  intro a b hab hb
  induction b with
  | zero => omega
  | succ b ih =>
    have h1 := h (b + 1) hb (by omega)
    simp only [Nat.add_sub_cancel] at h1
    rcases Nat.lt_or_ge a b with c | c
    · exact lessL_trans _ _ _ (ih c (by omega)) h1
    · obtain rfl : a = b := by omega
      exact h1
theorem riseF_step {l : List (Int × List Int × Int)} (h : ∀ i, i < l.length → 0 < i → (l.getD (i - 1) (0, [], 0)).1 < (l.getD i (0, [], 0)).1) : RiseF l := by
  intro a b hab hb
  induction b with
  | zero => omega
  | succ b ih =>
    have h1 := h (b + 1) hb (by omega)
    simp only [Nat.add_sub_cancel] at h1
    rcases Nat.lt_or_ge a b with c | c
    · have := ih c (by omega)
      omega
    · obtain rfl : a = b := by omega
      exact h1
theorem names_iff (fs : List (Int × List Int × Int)) (l : List (List Int × Int)) : namesOf fs l = true ↔ NamesGood fs l := by
  constructor
  · intro h
    have hok : ∀ i, i < l.length → okName fs l i = true := all_range_get h
    have hp : ∀ i, i < l.length → mayOf (nameAt l i).1 = true ∧ (i = 0 ∨ lessL (nameAt l (i - 1)).1 (nameAt l i).1 = true) ∧ 0 ≤ fileOf fs (nameAt l i).2 ∧ ∀ k, k < i → (nameAt l k).2 ≠ (nameAt l i).2 := by
      intro i hi
      have := hok i hi
      unfold okName at this
      simp only [Bool.and_eq_true, Bool.or_eq_true, decide_eq_true_eq, List.all_eq_true, List.mem_range] at this
      refine ⟨this.1.1.1, this.1.1.2, this.1.2, fun k hk => ?_⟩
      have := this.2 k hk
      simpa using this
    have ha : ∀ p ∈ l, ∃ i, i < l.length ∧ nameAt l i = p := by
      intro p hp
      obtain ⟨i, hi, rfl⟩ := List.getElem_of_mem hp
      exact ⟨i, hi, by simp [nameAt, List.getD, hi]⟩
    refine ⟨?_, ?_, ?_, ?_⟩
    · intro p hpl
      obtain ⟨i, hi, rfl⟩ := ha p hpl
      exact (hp i hi).1
    · refine riseN_pairwise.1 (rise_step fun i hi h0 => ?_)
      rcases (hp i hi).2.1 with c | c
      · omega
      · exact c
    · intro p hpl
      obtain ⟨i, hi, rfl⟩ := ha p hpl
      exact (file_iff _ _).1 (hp i hi).2.2.1
    · unfold List.Nodup
      rw [List.pairwise_map, List.pairwise_iff_getElem]
      intro i j hi hj hij
      have := (hp j hj).2.2.2 i hij
      simpa [nameAt, List.getD, hi, hj] using this
  · intro h
    refine all_range_yes fun i hi => ?_
    have hm : nameAt l i ∈ l := by
      have : nameAt l i = l[i] := by simp [nameAt, List.getD, hi]
      rw [this]
      exact List.getElem_mem _
    unfold okName
    simp only [Bool.and_eq_true, Bool.or_eq_true, decide_eq_true_eq, List.all_eq_true, List.mem_range]
    refine ⟨⟨⟨h.may _ hm, ?_⟩, (file_iff _ _).2 (h.ids _ hm)⟩, ?_⟩
    · rcases Nat.eq_zero_or_pos i with c | c
      · exact Or.inl c
      · exact Or.inr (riseN_pairwise.2 h.rise (i - 1) i (by omega) hi)
    · intro k hk
      have h1 := h.once
      unfold List.Nodup at h1
      rw [List.pairwise_map, List.pairwise_iff_getElem] at h1
      have := h1 k i (by omega) hi hk
      have e1 : nameAt l k = l[k] := by simp [nameAt, List.getD, (show k < l.length by omega)]
      have e2 : nameAt l i = l[i] := by simp [nameAt, List.getD, hi]
      rw [e1, e2]
      simpa using this
theorem few_names {fs : List (Int × List Int × Int)} {l : List (List Int × Int)} (h : NamesGood fs l) : l.length ≤ fs.length := by
  have h1 : (l.map (·.2)).length ≤ (fs.map (·.1)).length := by
    have hs : ∀ x ∈ l.map (·.2), x ∈ fs.map (·.1) := by
      intro x hx
      obtain ⟨p, hp, rfl⟩ := List.mem_map.1 hx
      exact h.ids p hp
    exact nodup_le _ _ h.once hs
  simpa using h1
theorem checkR_iff (s : St) : checkR s = true ↔ Good s := by
  constructor
  · intro h
    unfold checkR headR at h
    simp only [Bool.and_eq_true, decide_eq_true_eq] at h
    obtain ⟨⟨⟨⟨⟨⟨⟨⟨⟨⟨e1, e2⟩, e3⟩, e4⟩, e5⟩, e6⟩, e7⟩, e8⟩, h2⟩, h3⟩, h4⟩ := h
    have hok : ∀ i, i < s.files.length → okR s i = true := all_range_get h2
    have hp : ∀ i, i < s.files.length → 1 ≤ (s.files.getD i (0, [], 0)).1 ∧ (s.files.getD i (0, [], 0)).1 < s.next ∧ (i = 0 ∨ (s.files.getD (i - 1) (0, [], 0)).1 < (s.files.getD i (0, [], 0)).1) ∧ 0 ≤ (s.files.getD i (0, [], 0)).2.2 ∧ (s.files.getD i (0, [], 0)).2.2 ≤ ((s.files.getD i (0, [], 0)).2.1.length : Int) ∧ (standsOf s.names (s.files.getD i (0, [], 0)).1 = true ∨ standsOf s.safe (s.files.getD i (0, [], 0)).1 = true) := by
      intro i hi
      have := hok i hi
      unfold okR at this
      simp only [Bool.and_eq_true, Bool.or_eq_true, decide_eq_true_eq] at this
      obtain ⟨⟨⟨⟨⟨a1, a2⟩, a3⟩, a4⟩, a5⟩, a6⟩ := this
      exact ⟨a1, a2, a3, a4, a5, a6⟩
    have ha : ∀ f ∈ s.files, ∃ i, i < s.files.length ∧ s.files.getD i (0, [], 0) = f := by
      intro f hf
      obtain ⟨i, hi, rfl⟩ := List.getElem_of_mem hf
      exact ⟨i, hi, by simp [List.getD, hi]⟩
    refine ⟨⟨e1, e2, e4, e5, e3, ?_, ?_, ?_, e6, (names_iff _ _).1 h3, (names_iff _ _).1 h4⟩, ?_⟩
    · refine riseF_pairwise.1 (riseF_step fun i hi h0 => ?_)
      rcases (hp i hi).2.2.1 with c | c
      · omega
      · exact c
    · intro f hf
      obtain ⟨i, hi, rfl⟩ := ha f hf
      exact ⟨(hp i hi).1, (hp i hi).2.1⟩
    · intro f hf
      obtain ⟨i, hi, rfl⟩ := ha f hf
      exact ⟨(hp i hi).2.2.2.1, (hp i hi).2.2.2.2.1⟩
    · intro f hf
      obtain ⟨i, hi, rfl⟩ := ha f hf
      rcases (hp i hi).2.2.2.2.2 with c | c
      · exact Or.inl ((stands_iff _ _).1 c)
      · exact Or.inr ((stands_iff _ _).1 c)
  · intro h
    have n1 := few_names h.names
    have n2 := few_names h.safe
    have hfew := h.few
    unfold checkR headR
    simp only [Bool.and_eq_true, decide_eq_true_eq]
    refine ⟨⟨⟨⟨⟨⟨⟨⟨⟨⟨h.cap0, h.cap1⟩, h.few⟩, h.next0⟩, h.next1⟩, h.used⟩, by omega⟩, by omega⟩, ?_⟩, (names_iff _ _).2 h.names⟩, (names_iff _ _).2 h.safe⟩
    refine all_range_yes fun i hi => ?_
    have hm : s.files.getD i (0, [], 0) ∈ s.files := by
      have : s.files.getD i (0, [], 0) = s.files[i] := by simp [List.getD, hi]
      rw [this]
      exact List.getElem_mem _
    unfold okR
    simp only [Bool.and_eq_true, Bool.or_eq_true, decide_eq_true_eq]
    refine ⟨⟨⟨⟨⟨(h.ids _ hm).1, (h.ids _ hm).2⟩, ?_⟩, (h.sync _ hm).1⟩, (h.sync _ hm).2⟩, ?_⟩
    · rcases Nat.eq_zero_or_pos i with c | c
      · exact Or.inl c
      · exact Or.inr (riseF_pairwise.2 h.rise (i - 1) i (by omega) hi)
    · rcases h.all _ hm with c | c
      · exact Or.inl ((stands_iff _ _).2 c)
      · exact Or.inr ((stands_iff _ _).2 c)
theorem checkR_eq (s : St) : checkR s = checkP s := by
  rw [Bool.eq_iff_iff, checkR_iff, check_iff]
theorem refCheck_any (s : St) (v : Value) (w : World) (hv : StW w v s) :
    Calls Tryz.prog 39 #[v] w fun e w' => e = .returned (.int .i64 (errOf (checkP s))) ∧ Below w.heap.size w w' := by
  rw [← checkR_eq]
  have hs : checkR s = (headR s && allR s) := by unfold checkR allR; simp only [Bool.and_assoc]
  cases hh : headR s
  · have : checkR s = false := by rw [hs, hh]; rfl
    rw [this]
    exact refCheck_head s v w hv hh
  · have : checkR s = allR s := by rw [hs, hh]; rfl
    rw [this]
    exact refCheck_rest s v w hv hh
end Go.Proofs.YtnchjlimkgbfpaaGreatDoor

namespace Go.Proofs.YtnchjlimkgbfpaaGreatDoor
open Go.RowKit
set_option linter.unusedVariables false
set_option maxRecDepth 20000
set_option linter.unusedSimpArgs false
abbrev ARow := Value × Ac
def arow (y : ARow) : List Value := [.int .i64 y.2.what, .string (strOfNums y.2.name), .string (strOfNums y.2.dest), y.1]
def ActsW (w : World) (v : Value) (l : List Ac) : Prop := ∃ m : List ARow, m.map (·.2) = l ∧ Rws 4 w v (m.map arow) ∧ ∀ y ∈ m, Octs w y.1 y.2.data ∧ okAc y.2
theorem ActsW.up {w w' : World} {v : Value} {l : List Ac} (h : ActsW w v l) (hb : Below w.heap.size w w') : ActsW w' v l := by
  obtain ⟨m, h1, h2, h3⟩ := h
  exact ⟨m, h1, h2.up hb, fun y hy => ⟨(h3 y hy).1.up hb, (h3 y hy).2⟩⟩
theorem ActsW.len {w : World} {v : Value} {l : List Ac} (h : ActsW w v l) : ∃ a cap, v = .slice a l.length cap ∧ l.length ≤ cap ∧ cap ≤ maxLen := by
  obtain ⟨m, rfl, h2, _⟩ := h
  obtain ⟨a, cap, e, h1, h2⟩ := h2.len
  rw [List.length_map] at e h1
  rw [List.length_map]
  exact ⟨a, cap, e, h1, h2⟩
def noAc : Ac := ⟨0, [], [], []⟩
theorem ActsW.at {w : World} {v : Value} {l : List Ac} (h : ActsW w v l) (k : Nat) (hk : k < l.length) : ∃ b off cap ad cd, v = .slice (some ⟨b, off, none⟩) l.length cap ∧
    w.cell? ⟨b, off + k * 4, none⟩ = some (.int .i64 (l.getD k noAc).what) ∧ w.cell? ⟨b, off + k * 4 + 1, none⟩ = some (.string (strOfNums (l.getD k noAc).name)) ∧ w.cell? ⟨b, off + k * 4 + 2, none⟩ = some (.string (strOfNums (l.getD k noAc).dest)) ∧ w.cell? ⟨b, off + k * 4 + 3, none⟩ = some (.slice ad (l.getD k noAc).data.length cd) ∧
    AcW w (.agg #[.int .i64 (l.getD k noAc).what, .string (strOfNums (l.getD k noAc).name), .string (strOfNums (l.getD k noAc).dest), .slice ad (l.getD k noAc).data.length cd]) (l.getD k noAc) := by
  obtain ⟨m, rfl, h2, h3⟩ := h
  rw [List.length_map] at hk ⊢
  obtain ⟨b, off, cap, e, _, _, hc⟩ := h2.at k (by rw [List.length_map]; exact hk)
  rw [List.length_map] at e
  have hr : (m.map arow).getD k [] = arow m[k] := by simp [List.getD, hk]
  have hr2 : (m.map (·.2)).getD k noAc = m[k].2 := by simp [List.getD, hk]
  rw [hr] at hc
  rw [hr2]
  have h4 := h3 m[k] (List.getElem_mem hk)
  obtain ⟨ad, cd, evd, _⟩ := h4.1.slice
  have c0 := hc 0 _ rfl
  have c1 := hc 1 _ rfl
  have c2 := hc 2 _ rfl
  have c3 := hc 3 _ rfl
  rw [evd] at c3 h4
  exact ⟨b, off, cap, ad, cd, e, c0, c1, c2, c3, _, rfl, h4.1, h4.2⟩
end Go.Proofs.YtnchjlimkgbfpaaGreatDoor

namespace Go.Proofs.YtnchjlimkgbfpaaGreatDoor
open Go.RowKit
set_option linter.unusedVariables false
set_option maxRecDepth 20000
set_option linter.unusedSimpArgs false
end Go.Proofs.YtnchjlimkgbfpaaGreatDoor
