/- The texts M2, R1, R2, in this order. -/
import Derived.Test.YtnchjlimkgbfpaaGreatDoorG14

/- What the program's Check asks, said plainly. -/
namespace Go.Proofs.YtnchjlimkgbfpaaGreatDoor
open Go.RowKit
set_option linter.unusedVariables false
set_option maxRecDepth 20000

theorem fold_le : ∀ (m acc : List Int), (m.foldl addId acc).length ≤ acc.length + m.length
  | [], acc => by simp
  | x :: r, acc => by
    have h := fold_le r (addId acc x)
    have h2 : (addId acc x).length ≤ acc.length + 1 := by
      unfold addId
      split <;> simp
    simp only [List.foldl_cons, List.length_cons]
    omega

theorem fold_nodup : ∀ (m acc : List Int), acc.Nodup → (m.foldl addId acc).length = acc.length + m.length → (acc ++ m).Nodup
  | [], acc, h, _ => by simpa using h
  | x :: r, acc, h, e => by
    simp only [List.foldl_cons, List.length_cons] at e
    by_cases c : acc.contains x = true
    · have ha : addId acc x = acc := by unfold addId; rw [if_pos c]
      rw [ha] at e
      have := fold_le r acc
      omega
    · have ha : addId acc x = acc ++ [x] := by unfold addId; rw [if_neg c]
      have hn := addId_nodup h x
      rw [ha] at e hn
      have := fold_nodup r (acc ++ [x]) hn (by rw [e]; simp; omega)
      simpa using this

theorem fold_len : ∀ (m acc : List Int), (acc ++ m).Nodup → (m.foldl addId acc).length = acc.length + m.length
  | [], acc, _ => by simp
  | x :: r, acc, h => by
    have hx : ¬ acc.contains x = true := by
      intro q
      have q' : x ∈ acc := by simpa using q
      rw [List.nodup_append] at h
      exact h.2.2 x q' x (by simp) rfl
    have ha : addId acc x = acc ++ [x] := by unfold addId; rw [if_neg hx]
    simp only [List.foldl_cons, List.length_cons]
    rw [ha, fold_len r (acc ++ [x]) (by simpa using h)]
    simp
    omega

theorem ids_nodup (l : List (List Int × Int)) : (idsOf l).length = l.length ↔ (l.map (·.2)).Nodup := by
  unfold idsOf
  constructor
  · intro h
    have := fold_nodup (l.map (·.2)) [] (by simp) (by rw [h]; simp)
    simpa using this
  · intro h
    rw [fold_len (l.map (·.2)) [] (by simpa using h)]
    simp

/-- Names that may be, over files. -/
structure NamesGood (fs : List (Int × List Int × Int)) (l : List (List Int × Int)) : Prop where
  may : ∀ p ∈ l, mayOf p.1 = true
  rise : l.Pairwise fun a b => lessL a.1 b.1 = true
  ids : ∀ p ∈ l, p.2 ∈ fs.map (·.1)
  once : (l.map (·.2)).Nodup

/-- A state but for this: that each file is named. -/
structure Nearly (s : St) : Prop where
  cap0 : 0 ≤ s.cap
  cap1 : s.cap ≤ 16777216
  next0 : 1 ≤ s.next
  next1 : s.next ≤ 2147483647
  few : s.files.length ≤ 256
  rise : s.files.Pairwise fun a b => a.1 < b.1
  ids : ∀ f ∈ s.files, 1 ≤ f.1 ∧ f.1 < s.next
  sync : ∀ f ∈ s.files, 0 ≤ f.2.2 ∧ f.2.2 ≤ (f.2.1.length : Int)
  used : usedOf s.files ≤ s.cap
  names : NamesGood s.files s.names
  safe : NamesGood s.files s.safe

structure Good (s : St) : Prop extends Nearly s where
  all : ∀ f ∈ s.files, f.1 ∈ s.names.map (·.2) ∨ f.1 ∈ s.safe.map (·.2)

theorem files_nodup {fs : List (Int × List Int × Int)} (h : fs.Pairwise fun a b => a.1 < b.1) : (fs.map (·.1)).Nodup := by
  unfold List.Nodup
  rw [List.pairwise_map]
  exact h.imp fun hab e => by omega

theorem riseF_pairwise {fs : List (Int × List Int × Int)} : RiseF fs ↔ fs.Pairwise fun a b => a.1 < b.1 := by
  rw [List.pairwise_iff_getElem]
  unfold RiseF
  constructor
  · intro h i j hi hj hij
    have := h i j hij hj
    simpa [List.getD, hi, hj] using this
  · intro h a b hab hb
    have := h a b (by omega) hb hab
    simpa [List.getD, hb, (show a < fs.length by omega)] using this

theorem riseN_pairwise {l : List (List Int × Int)} : RiseN l ↔ l.Pairwise fun a b => lessL a.1 b.1 = true := by
  rw [List.pairwise_iff_getElem]
  unfold RiseN
  constructor
  · intro h i j hi hj hij
    have := h i j hij hj
    simpa [List.getD, hi, hj] using this
  · intro h a b hab hb
    have := h a b (by omega) hb hab
    simpa [List.getD, hb, (show a < l.length by omega)] using this

theorem takeWhile_all {A : Type} {p : A → Bool} {l r : List A} (h : ∀ x ∈ l, p x = true) : (l ++ r).takeWhile p = l ++ r.takeWhile p := by
  induction l with
  | nil => rfl
  | cons x l ih => simp [h x (by simp), ih (fun y hy => h y (by simp [hy]))]

theorem thereF_of_mem {fs : List (Int × List Int × Int)} {id : Int} (h : fs.Pairwise fun a b => a.1 < b.1) (hm : id ∈ fs.map (·.1)) : thereF fs id = true := by
  obtain ⟨f, hf, rfl⟩ := List.mem_map.1 hm
  obtain ⟨l, r, rfl⟩ := List.append_of_mem hf
  have hl : ∀ x ∈ l, decide (x.1 < f.1) = true := by
    intro x hx
    rw [List.pairwise_append] at h
    simpa using h.2.2 x hx f (by simp)
  have hr : rankF (l ++ f :: r) f.1 = l.length := by
    unfold rankF rankOf
    rw [takeWhile_all hl]
    simp
  unfold thereF
  rw [hr]
  simp [List.getD]

theorem check_good {s : St} (h : checkP s = true) : Good s := by
  obtain ⟨h1, h2, h3, h4, h5⟩ := check_parts h
  have hso := check_sound h
  have hrise := riseF_pairwise.1 hso.1.2.2.2.2
  unfold boundsOf at h1
  simp only [Bool.and_eq_true, decide_eq_true_eq] at h1
  have hfile : ∀ f ∈ s.files, (1 ≤ f.1 ∧ f.1 < s.next) ∧ 0 ≤ f.2.2 ∧ f.2.2 ≤ (f.2.1.length : Int) := by
    intro f hf
    obtain ⟨i, hi, rfl⟩ := List.getElem_of_mem hf
    have hok := filesMay_ok h2 i hi
    unfold okFile at hok
    simp only [Bool.and_eq_true, decide_eq_true_eq] at hok
    have e : s.files.getD i (0, [], 0) = s.files[i] := by simp [List.getD, hi]
    rw [e] at hok
    have hp : 0 ≤ prevId s.files i := by
      clear hok e
      induction i with
      | zero => simp [prevId]
      | succ i ih =>
        have hok := filesMay_ok h2 i (by omega)
        unfold okFile at hok
        simp only [Bool.and_eq_true, decide_eq_true_eq] at hok
        have := ih (by omega) (List.getElem_mem _)
        unfold prevId
        rw [if_neg (by omega)]
        simp only [Nat.add_sub_cancel]
        omega
    exact ⟨⟨by omega, hok.1.1.2⟩, hok.1.2, hok.2⟩
  have hused : usedOf s.files ≤ s.cap := by
    unfold filesMayOf at h2
    simp only [Bool.and_eq_true, decide_eq_true_eq] at h2
    exact h2.2
  have hnames : ∀ l, namesMayOf s.files l = true → NamesGood s.files l := by
    intro l hl
    refine ⟨?_, riseN_pairwise.1 (names_rise hl), fun p hp => thereF_mem (names_there hl p hp), (ids_nodup l).1 (names_ok hl).2⟩
    intro p hp
    obtain ⟨k, hk, rfl⟩ := List.getElem_of_mem hp
    have := (names_ok hl).1 k hk
    unfold okNameP nameAt at this
    simp only [Bool.and_eq_true] at this
    have e : l.getD k ([], 0) = l[k] := by simp [List.getD, hk]
    rw [e] at this
    exact this.1.1
  refine ⟨⟨h1.1.1.1.1, h1.1.1.1.2, h1.1.1.2, h1.1.2, h1.2, hrise, fun f hf => (hfile f hf).1, fun f hf => (hfile f hf).2, hused, hnames _ h3, hnames _ h4⟩, ?_⟩
  intro f hf
  unfold allNamedOf at h5
  simp only [decide_eq_true_eq] at h5
  have hin : f.1 ∈ idsOf (s.names ++ s.safe) := by
    apply Classical.byContradiction
    intro hno
    have hsub : ∀ x ∈ idsOf (s.names ++ s.safe), x ∈ (s.files.map (·.1)).erase f.1 := by
      intro x hx
      have hne : x ≠ f.1 := fun e => hno (e ▸ hx)
      rw [List.mem_erase_of_ne hne]
      obtain ⟨p, hp, rfl⟩ := (mem_idsOf _ x).1 hx
      rcases List.mem_append.1 hp with hp | hp
      · exact (hnames _ h3).ids p hp
      · exact (hnames _ h4).ids p hp
    have hle := nodup_le _ _ (idsOf_nodup _) hsub
    have hmem : f.1 ∈ s.files.map (·.1) := List.mem_map.2 ⟨f, hf, rfl⟩
    rw [List.length_erase_of_mem hmem, List.length_map] at hle
    have hpos : 0 < s.files.length := List.length_pos_of_mem hf
    omega
  obtain ⟨p, hp, e⟩ := (mem_idsOf _ _).1 hin
  rcases List.mem_append.1 hp with hp | hp
  · exact .inl (List.mem_map.2 ⟨p, hp, e⟩)
  · exact .inr (List.mem_map.2 ⟨p, hp, e⟩)

theorem good_names {fs : List (Int × List Int × Int)} {l : List (List Int × Int)} (hr : fs.Pairwise fun a b => a.1 < b.1) (h : NamesGood fs l) : namesMayOf fs l = true := by
  unfold namesMayOf
  simp only [Bool.and_eq_true, decide_eq_true_eq]
  refine ⟨?_, (ids_nodup l).2 h.once⟩
  rw [List.all_eq_true]
  intro i hi
  rw [List.mem_range] at hi
  unfold okNameP nameAt
  have e : l.getD i ([], 0) = l[i] := by simp [List.getD, hi]
  rw [e]
  simp only [Bool.and_eq_true, Bool.or_eq_true, decide_eq_true_eq]
  refine ⟨⟨h.may _ (List.getElem_mem _), ?_⟩, thereF_of_mem hr (h.ids _ (List.getElem_mem _))⟩
  rcases Nat.eq_zero_or_pos i with q | q
  · exact .inl q
  · refine .inr ?_
    have := riseN_pairwise.2 h.rise (i - 1) i (by omega) hi
    rw [e] at this
    exact this

theorem good_check {s : St} (h : Good s) : checkP s = true := by
  unfold checkP
  simp only [Bool.and_eq_true]
  refine ⟨⟨⟨⟨?_, ?_⟩, good_names h.rise h.names⟩, good_names h.rise h.safe⟩, ?_⟩
  · unfold boundsOf
    simp only [Bool.and_eq_true, decide_eq_true_eq]
    exact ⟨⟨⟨⟨h.cap0, h.cap1⟩, h.next0⟩, h.next1⟩, h.few⟩
  · unfold filesMayOf
    simp only [Bool.and_eq_true, decide_eq_true_eq]
    refine ⟨?_, h.used⟩
    rw [List.all_eq_true]
    intro i hi
    rw [List.mem_range] at hi
    unfold okFile
    have e : s.files.getD i (0, [], 0) = s.files[i] := by simp [List.getD, hi]
    rw [e]
    simp only [Bool.and_eq_true, decide_eq_true_eq]
    have hm := List.getElem_mem (l := s.files) hi
    refine ⟨⟨⟨?_, (h.ids _ hm).2⟩, (h.sync _ hm).1⟩, (h.sync _ hm).2⟩
    unfold prevId
    split
    · have := (h.ids _ hm).1
      omega
    · have := riseF_pairwise.2 h.rise (i - 1) i (by omega) hi
      rw [e] at this
      exact this
  · unfold allNamedOf
    simp only [decide_eq_true_eq]
    have hsub : ∀ x ∈ idsOf (s.names ++ s.safe), x ∈ s.files.map (·.1) := by
      intro x hx
      obtain ⟨p, hp, rfl⟩ := (mem_idsOf _ x).1 hx
      rcases List.mem_append.1 hp with hp | hp
      · exact h.names.ids p hp
      · exact h.safe.ids p hp
    have h1 := nodup_le _ _ (idsOf_nodup _) hsub
    have h2 := nodup_le (s.files.map (·.1)) (idsOf (s.names ++ s.safe)) (files_nodup h.rise) (by
      intro x hx
      obtain ⟨f, hf, rfl⟩ := List.mem_map.1 hx
      rw [mem_idsOf]
      rcases h.all f hf with q | q
      · obtain ⟨p, hp, e⟩ := List.mem_map.1 q
        exact ⟨p, List.mem_append.2 (.inl hp), e⟩
      · obtain ⟨p, hp, e⟩ := List.mem_map.1 q
        exact ⟨p, List.mem_append.2 (.inr hp), e⟩)
    rw [List.length_map] at h1 h2
    omega

end Go.Proofs.YtnchjlimkgbfpaaGreatDoor

/- The program's New, Do and Read. -/
namespace Go.Proofs.YtnchjlimkgbfpaaGreatDoor
open Go.RowKit
set_option linter.unusedVariables false
set_option maxRecDepth 20000
set_option linter.unusedSimpArgs false

def z0 : St := ⟨0, [], [], [], 0⟩

theorem OwnV.zero (w : World) (base : Nat) (c n : Int) (hc : In64 c) (hn : In64 n) : OwnV w base (.agg #[.int .i64 c, .slice none 0 0, .slice none 0 0, .slice none 0 0, .int .i64 n]) ⟨c, [], [], [], n⟩ :=
  ⟨_, _, _, [], rfl, rfl, ⟨OwnR.nil _ _ _ _, (fun y hy => by cases hy), List.Pairwise.nil⟩, OwnN.nil _ _ _, OwnN.nil _ _ _, .inl rfl, hc, hn⟩

theorem in64_0 : In64 0 := by unfold In64; omega

/-- A state through its own block, and a number. -/
theorem results_state1 {fn : Func} {r k : Nat} (h : fn.results = #[.cell r 35, .tmp k]) (tmps : Array Value) (w : World) {N : Nat} {a b c d e x : Value} (ht : tmps.getD r undef = .pointer (some ⟨N, 0, none⟩)) (hx : tmps.getD k undef = x)
    (hc : w.heap[N]? = some (.cells #[a, b, c, d, e] 35)) : (results fn tmps).run Tryz.prog w = .ok (.tuple #[.agg #[a, b, c, d, e], x]) w := by
  have c0 := blk_cell hc 0 a rfl
  have c1 := blk_cell hc 1 b rfl
  have c2 := blk_cell hc 2 c rfl
  have c3 := blk_cell hc 3 d rfl
  have c4 := blk_cell hc 4 e rfl
  have ht' : tmps[r]?.getD undef = .pointer (some ⟨N, 0, none⟩) := by simpa using ht
  have hx' : tmps[k]?.getD undef = x := by simpa using hx
  simp only [results, h]
  simp [ht', hx', go_sem, c0, c1, c2, c3, c4]

def newP (n : Int) : St × Int := if n < 0 ∨ 16777216 < n then (z0, 4) else (⟨n, [], [], [], 1⟩, 0)

theorem new_any (n : Int) (hn : In64 n) (w : World) :
    Calls Tryz.prog 24 #[.int .i64 n] w fun e w' => ∃ v', e = .returned (.tuple #[v', .int .i64 (newP n).2]) ∧ OwnV w' w.heap.size v' (newP n).1 ∧ Below w.heap.size w w' := by
  by_cases c1 : n < 0
  · have HR : Hid (newP n = (z0, 4)) := by unfold Hid newP; rw [if_pos (.inl c1)]
    go_enter Tryz.func24, Tryz.ntmps24
    go_wp2
    refine bodyPost_ret (results_state1 rfl _ _ rfl rfl (blk_new w _)) rfl ?_
    rw [HR.out]
    exact ⟨_, rfl, OwnV.zero _ _ 0 0 in64_0 in64_0, up_al (Below.refl _ _) _⟩
  · by_cases c2 : 16777216 < n
    · have HR : Hid (newP n = (z0, 4)) := by unfold Hid newP; rw [if_pos (.inr c2)]
      go_enter Tryz.func24, Tryz.ntmps24
      go_wp2
      refine bodyPost_ret (results_state1 rfl _ _ rfl rfl (blk_new w _)) rfl ?_
      rw [HR.out]
      exact ⟨_, rfl, OwnV.zero _ _ 0 0 in64_0 in64_0, up_al (Below.refl _ _) _⟩
    · have HR : Hid (newP n = (⟨n, [], [], [], 1⟩, 0)) := by unfold Hid newP; rw [if_neg (fun h => h.elim c1 c2)]
      go_enter Tryz.func24, Tryz.ntmps24
      go_wp2
      refine bodyPost_ret (results_state1 rfl _ _ rfl rfl (blk_new w _)) rfl ?_
      rw [HR.out]
      exact ⟨_, rfl, OwnV.zero _ _ n 1 hn (by unfold In64; omega), up_al (Below.refl _ _) _⟩

/-- What is owned but for the state's own block. -/
theorem OwnS.take {w : World} {base B : Nat} {s : St} (h : OwnS w base B s) : ∃ vf vn vs, w.heap[B]? = some (.cells #[.int .i64 s.cap, vf, vn, vs, .int .i64 s.next] 35) ∧ OwnV w base (.agg #[.int .i64 s.cap, vf, vn, vs, .int .i64 s.next]) s := by
  obtain ⟨_, vf, vn, vs, m, hb, hm, of, on, os, hap, hi1, hi2⟩ := h
  exact ⟨vf, vn, vs, hb, vf, vn, vs, m, rfl, hm, of, on, os, hap, hi1, hi2⟩

/-- A whole state is stored into a block of its kind. -/
theorem OwnV.put {w : World} {base : Nat} {s : St} {a b c d e : Value} (h : OwnV w base (.agg #[a, b, c, d, e]) s) {N : Nat} {x0 x1 x2 x3 x4 : Value} (hb : w.heap[N]? = some (.cells #[x0, x1, x2, x3, x4] 35)) :
    OwnS (set5 w N a b c d e) base N s ∧ OwnV (set5 w N a b c d e) base (.agg #[a, b, c, d, e]) s := by
  obtain ⟨vf, vn, vs, m, ev, hm, of, on, os, hap, hi1, hi2⟩ := h
  have g5 := set5_grown w N a b c d e
  have b5 := set5_blk hb a b c d e
  simp at ev
  obtain ⟨rfl, rfl, rfl, rfl, rfl⟩ := ev
  have of5 := of.far g5 (own_blk_ne of.1.2 hb (by decide)) (fun y hy => own_blk_ne (of.2.1 y hy).1 hb (by decide))
  have on5 := on.far g5 (own_blk_ne on.2.2 hb (by decide))
  have os5 := os.far g5 (own_blk_ne os.2.2 hb (by decide))
  exact ⟨⟨trivial, _, _, _, m, b5, hm, of5, on5, os5, hap, hi1, hi2⟩, ⟨_, _, _, m, rfl, hm, of5, on5, os5, hap, hi1, hi2⟩⟩

theorem OwnV.shape {w : World} {base : Nat} {v : Value} {s : St} (h : OwnV w base v s) : ∃ af nf cf an nn cn as' ns cs', v = .agg #[.int .i64 s.cap, .slice af nf cf, .slice an nn cn, .slice as' ns cs', .int .i64 s.next] := by
  obtain ⟨vf, vn, vs, m, rfl, hm, of, on, os, hap, hi1, hi2⟩ := h
  obtain ⟨a1, c1, e1, _, _⟩ := (NamesW.own on).len
  obtain ⟨a2, c2, e2, _, _⟩ := (NamesW.own os).len
  obtain ⟨a3, c3, e3, _, _⟩ := (Rws.own of.1).len
  subst e1
  subst e2
  subst e3
  exact ⟨_, _, _, _, _, _, _, _, _, rfl⟩

theorem StW.shape {w : World} {v : Value} {s : St} (h : StW w v s) : ∃ af nf cf an nn cn as' ns cs', v = .agg #[.int .i64 s.cap, .slice af nf cf, .slice an nn cn, .slice as' ns cs', .int .i64 s.next] := by
  obtain ⟨vf, vn, vs, rfl, hf, hn, hs, hi1, hi2⟩ := h
  obtain ⟨a1, c1, e1, _, _⟩ := hn.len
  obtain ⟨a2, c2, e2, _, _⟩ := hs.len
  obtain ⟨a3, c3, e3, _, _⟩ := hf.len
  subst e1
  subst e2
  subst e3
  exact ⟨_, _, _, _, _, _, _, _, _, rfl⟩

end Go.Proofs.YtnchjlimkgbfpaaGreatDoor

/- The program's Read and List. -/
namespace Go.Proofs.YtnchjlimkgbfpaaGreatDoor
open Go.RowKit
set_option linter.unusedVariables false
set_option maxRecDepth 20000
set_option linter.unusedSimpArgs false

def readP (s : St) (name : List Int) : List Int × Int := if checkP s then (if hasF s name then ((fileD s (idxF s name)).2.1, 0) else ([], 71)) else ([], 9)

set_option maxHeartbeats 2000000 in
set_option maxRecDepth 20000 in
theorem read_any (s : St) (name : List Int) (hna : OctL name) (v : Value) (w : World) (hv : StW w v s) (hl : s.names.length + s.safe.length ≤ 9223372036854775807) :
    Calls Tryz.prog 50 #[v, .string (strOfNums name)] w fun e w' => ∃ v', e = .returned (.tuple #[v', .int .i64 (readP s name).2]) ∧ OwnB w' w.heap.size v' (readP s name).1 ∧ OctL (readP s name).1 ∧ Below w.heap.size w w' := by
  obtain ⟨af, nf, cf, an, nn, cn, as', ns, cs', ev⟩ := hv.shape
  subst ev
  obtain ⟨wx, hwx⟩ : ∃ wx, wx = w.alloc (.cells #[.int .i64 s.cap, .slice af nf cf, .slice an nn cn, .slice as' ns cs', .int .i64 s.next] 35) := ⟨_, rfl⟩
  have HX : Hid (w.alloc (.cells #[.int .i64 s.cap, .slice af nf cf, .slice an nn cn, .slice as' ns cs', .int .i64 s.next] 35) = wx) := hwx.symm
  have bx : Hid (BoxW w (.cells #[.int .i64 s.cap, .slice af nf cf, .slice an nn cn, .slice as' ns cs', .int .i64 s.next] 35) wx) := by rw [hwx]; exact BoxW.start _ _
  have HS : Hid (StW w (.agg #[.int .i64 s.cap, .slice af nf cf, .slice an nn cn, .slice as' ns cs', .int .i64 s.next]) s) := hv
  clear hv hwx
  go_enter Tryz.func50, Tryz.ntmps50
  go_upto_region 1 with fail
  rw [HX.out]
  clear HX
  have q0 := bx.out.cell 0 _ rfl
  have q1 := bx.out.cell 1 _ rfl
  have q2 := bx.out.cell 2 _ rfl
  have q3 := bx.out.cell 3 _ rfl
  have q4 := bx.out.cell 4 _ rfl
  have hc := check_any s _ wx (HS.out.up bx.out.up) hl
  cases hchk : checkP s with
  | false =>
    have HR : Hid (readP s name = ([], 9)) := by unfold Hid readP; rw [hchk]; rfl
    rw [hchk] at hc
    have he : errOf false = 9 := rfl
    rw [he] at hc
    clear hchk he
    go_wp2_with fail
    refine hc.mono ?_
    rintro e w1 ⟨rfl, u1⟩
    have up1 : Hid (Below w.heap.size w w1) := up_trans bx.out.up u1
    clear u1 hc q0 q1 q2 q3 q4
    go_wp2_with fail
    go_ret2
    rw [HR.out]
    exact ⟨_, rfl, OwnB.nil _ _, (fun x hx => by cases hx), up1.out⟩
  | true =>
    have HSo : Hid (Sound s) := check_sound hchk
    have HR : Hid (readP s name = if hasF s name then ((fileD s (idxF s name)).2.1, 0) else ([], 71)) := by unfold Hid readP; rw [hchk]; rfl
    rw [hchk] at hc
    have he : errOf true = 0 := rfl
    rw [he] at hc
    clear hchk he
    go_wp2_with fail
    refine hc.mono ?_
    rintro e w1 ⟨rfl, u1⟩
    have bx1 : Hid (BoxW w (.cells #[.int .i64 s.cap, .slice af nf cf, .slice an nn cn, .slice as' ns cs', .int .i64 s.next] 35) w1) := bx.out.step u1
    clear u1 hc q0 q1 q2 q3 q4
    have q0 := bx1.out.cell 0 _ rfl
    have q1 := bx1.out.cell 1 _ rfl
    have q2 := bx1.out.cell 2 _ rfl
    have q3 := bx1.out.cell 3 _ rfl
    have q4 := bx1.out.cell 4 _ rfl
    have hst := HS.out.up bx1.out.up
    obtain ⟨vf, vn, vs, ev, hf, hn, hs, hi1, hi2⟩ := hst
    simp at ev
    obtain ⟨rfl, rfl, rfl⟩ := ev
    have HF : Hid (FilesW w1 (.slice af nf cf) s.files) := hf
    have hcf := file_any s.files s.names name hna (.int .i64 s.cap) _ _ (.slice as' ns cs') (.int .i64 s.next) w1 hf hn (by have := HSo.out.1.1; omega) (by have := HSo.out.1.2.1; omega) HSo.out.1.2.2.2.2 HSo.out.1.2.2.2.1
    have eh : (thereN s.names name && thereF s.files (s.names.getD (rankN s.names name) ([], 0)).2) = hasF s name := rfl
    rw [eh] at hcf
    clear hf hn hs hi1 hi2 eh
    cases hth : hasF s name with
    | false =>
      have HR2 : Hid (readP s name = ([], 71)) := by unfold Hid; rw [HR.out, hth]; rfl
      rw [hth] at hcf
      clear hth
      generalize (if thereN s.names name = true then ((rankF s.files (s.names.getD (rankN s.names name) ([], 0)).2 : Nat) : Int) else 0) = ix at hcf
      go_wp2_with fail
      refine hcf.mono ?_
      rintro e w2 ⟨rfl, u2⟩
      have up2 : Hid (Below w.heap.size w w2) := up_trans bx1.out.up u2
      clear u2 hcf q0 q1 q2 q3 q4
      go_wp2_with fail
      go_ret2
      rw [HR2.out]
      exact ⟨_, rfl, OwnB.nil _ _, (fun x hx => by cases hx), up2.out⟩
    | true =>
      have hlt := idx_lt hth
      have HR2 : Hid (readP s name = ((fileD s (idxF s name)).2.1, 0)) := by unfold Hid; rw [HR.out, hth]; rfl
      have ei : (if thereN s.names name = true then ((rankF s.files (s.names.getD (rankN s.names name) ([], 0)).2 : Nat) : Int) else 0) = ((idxF s name : Nat) : Int) := by
        have h1 : thereN s.names name = true := by
          unfold hasF at hth
          rw [Bool.and_eq_true] at hth
          exact hth.1
        rw [if_pos h1]
        rfl
      rw [hth, ei] at hcf
      clear hth ei
      generalize idxF s name = i at *
      have hii : (i : Int) < (s.files.length : Int) := by omega
      go_wp2_with fail
      refine hcf.mono ?_
      rintro e w2 ⟨rfl, u2⟩
      have bx2 : Hid (BoxW w (.cells #[.int .i64 s.cap, .slice af nf cf, .slice an nn cn, .slice as' ns cs', .int .i64 s.next] 35) w2) := bx1.out.step u2
      have HF2 : Hid (FilesW w2 (.slice af nf cf) s.files) := HF.out.up u2
      clear u2 hcf q0 q1 q2 q3 q4
      have q1 := bx2.out.cell 1 _ rfl
      obtain ⟨b, off, cap', u, e, _, _, c0, c1, c2, ho, hdl, _⟩ := HF2.out.at i hlt
      simp at e
      obtain ⟨rfl, rfl, rfl⟩ := e
      have HO : Hid (Octs w2 u (fileD s i).2.1 ∧ (fileD s i).2.1.length ≤ 140737488355328) := ⟨ho, hdl⟩
      clear ho hdl c0 c2
      obtain ⟨au, cu, eu, _⟩ := HO.out.1.slice
      subst eu
      go_wp2_with fail
      refine (freshB_any _ _ w2 HO.out.1 HO.out.2).mono ?_
      rintro e w3 ⟨v3, rfl, ob3, u3⟩
      have HO3 : Hid (OwnB w3 w.heap.size v3 (fileD s i).2.1 ∧ Below w.heap.size w w3) := ⟨ob3.mono bx2.out.up.size, up_trans bx2.out.up u3⟩
      clear ob3 u3 q1 c1
      go_wp2_with fail
      go_ret2
      rw [HR2.out]
      exact ⟨_, rfl, HO3.out.1, HO.out.1.1, HO3.out.2⟩

def listP (s : St) : List (List Int) × Int := if checkP s then (s.names.map (·.1), 0) else ([], 9)

def srow (t : List Int) : List Value := [.string (strOfNums t)]

theorem Tryz.info9 : (Tryz.prog.info? 9).map (fun i => (i.zero, i.size, i.bytes)) = some (some (.string ⟨#[]⟩), 1, 16) := by kernel_rfl

set_option maxHeartbeats 2000000 in
set_option maxRecDepth 20000 in
theorem list_any (s : St) (v : Value) (w : World) (hv : StW w v s) (hl : s.names.length + s.safe.length ≤ 9223372036854775807) :
    Calls Tryz.prog 33 #[v] w fun e w' => ∃ v', e = .returned (.tuple #[v', .int .i64 (listP s).2]) ∧ OwnR w' w.heap.size 9 1 v' ((listP s).1.map srow) ∧ Below w.heap.size w w' := by
  obtain ⟨af, nf, cf, an, nn, cn, as', ns, cs', ev⟩ := hv.shape
  subst ev
  obtain ⟨wx, hwx⟩ : ∃ wx, wx = w.alloc (.cells #[.int .i64 s.cap, .slice af nf cf, .slice an nn cn, .slice as' ns cs', .int .i64 s.next] 35) := ⟨_, rfl⟩
  have HX : Hid (w.alloc (.cells #[.int .i64 s.cap, .slice af nf cf, .slice an nn cn, .slice as' ns cs', .int .i64 s.next] 35) = wx) := hwx.symm
  have bx : Hid (BoxW w (.cells #[.int .i64 s.cap, .slice af nf cf, .slice an nn cn, .slice as' ns cs', .int .i64 s.next] 35) wx) := by rw [hwx]; exact BoxW.start _ _
  have HS : Hid (StW w (.agg #[.int .i64 s.cap, .slice af nf cf, .slice an nn cn, .slice as' ns cs', .int .i64 s.next]) s) := hv
  clear hv hwx
  go_enter Tryz.func33, Tryz.ntmps33
  go_upto_region 1 with fail
  rw [HX.out]
  clear HX
  have q0 := bx.out.cell 0 _ rfl
  have q1 := bx.out.cell 1 _ rfl
  have q2 := bx.out.cell 2 _ rfl
  have q3 := bx.out.cell 3 _ rfl
  have q4 := bx.out.cell 4 _ rfl
  have hc := check_any s _ wx (HS.out.up bx.out.up) hl
  cases hchk : checkP s with
  | false =>
    have HR : Hid (listP s = ([], 9)) := by unfold Hid listP; rw [hchk]; rfl
    rw [hchk] at hc
    have he : errOf false = 9 := rfl
    rw [he] at hc
    clear hchk he
    go_wp2_with fail
    refine hc.mono ?_
    rintro e w1 ⟨rfl, u1⟩
    have up1 : Hid (Below w.heap.size w w1) := up_trans bx.out.up u1
    clear u1 hc q0 q1 q2 q3 q4
    go_wp2_with fail
    go_ret2
    rw [HR.out]
    exact ⟨_, rfl, OwnR.nil _ _ _ _, up1.out⟩
  | true =>
    have HSo : Hid (Sound s) := check_sound hchk
    have HR : Hid (listP s = (s.names.map (·.1), 0)) := by unfold Hid listP; rw [hchk]; rfl
    rw [hchk] at hc
    have he : errOf true = 0 := rfl
    rw [he] at hc
    clear hchk he
    go_wp2_with fail
    refine hc.mono ?_
    rintro e w1 ⟨rfl, u1⟩
    have bx1 : Hid (BoxW w (.cells #[.int .i64 s.cap, .slice af nf cf, .slice an nn cn, .slice as' ns cs', .int .i64 s.next] 35) w1) := bx.out.step u1
    clear u1 hc q0 q1 q2 q3 q4
    have q2 := bx1.out.cell 2 _ rfl
    have hst := HS.out.up bx1.out.up
    obtain ⟨vf, vn, vs, ev, hf, hn, hs, hi1, hi2⟩ := hst
    simp at ev
    obtain ⟨rfl, rfl, rfl⟩ := ev
    obtain ⟨x1, x2, en, _, _⟩ := hn.len
    injection en with en1 en2 en3
    subst en2
    clear en1 en3
    have HN : Hid (NamesW w1 (.slice an s.names.length cn) s.names) := hn
    have hln := HSo.out.1.2.1
    clear hf hn hs hi1 hi2
    go_wp2_with fail
    clear q2
    go_loopw [5, 16] (fun vb i wr => ∃ k : Nat, k ≤ s.names.length ∧ i = .int .i64 k ∧ Hid (OwnR wr w1.heap.size 9 1 vb (((s.names.take k).map (·.1)).map srow)) ∧ Hid (Below w1.heap.size w1 wr)) (fun _ i _ => s.names.length - (intOf i).toNat)
    case atStart => exact ⟨0, Nat.zero_le _, rfl, OwnR.nil _ _ _ _, Below.refl _ _⟩
    case round =>
      obtain ⟨k, hk, rfl, HO, up⟩ := hrel
      by_cases hlt : k < s.names.length
      · have hlt' : (k : Int) < (s.names.length : Int) := by omega
        obtain ⟨b, off, cap', e, _, _, c0, c1, ho, _, hi'⟩ := (HN.out.up up.out).at k hlt
        simp at e
        obtain ⟨rfl, rfl⟩ := e
        have HT : Hid (s.names.take (k + 1) = s.names.take k ++ [s.names.getD k ([], 0)]) := take_snoc s.names k _ hlt
        have HKl : Hid ((((s.names.take k).map (·.1)).map srow).length = k) := by simp [Hid]; omega
        generalize s.names.getD k ([], 0) = y at *
        obtain ⟨ys, yi⟩ := y
        simp only at c0 c1 HT
        have hsz1 := bx1.out.up.size
        have hsz2 := up.out.size
        obtain ⟨vl, cl, ev5, _, _⟩ := (Rws.own HO.out).len
        subst ev5
        rw [HKl.out] at HO ⊢
        have HOx : Hid (OwnR (wr.alloc (.cells #[.string (strOfNums ys), .int .i64 yi] 146)) w1.heap.size 9 1 (.slice vl k cl) (((s.names.take k).map (·.1)).map srow)) := HO.out.up (up_al (Below.refl _ _) _)
        go_wp2_with (at_builtin; refine wpList_append_row (wr.alloc (.cells #[.string (strOfNums ys), .int .i64 yi] 146)) rfl (.tmp 20) (.tmp 23) 62 9 (.string ⟨#[]⟩) 1 16 rfl Tryz.underlying62 Tryz.info9 rfl (by decide) w1.heap.size (.slice vl k cl) _ rfl HOx.out (srow ys) _ (wr.heap.size + 1) ?n1 rfl rfl rfl ?n2 ?n3 ?n4 ?n5 ?_)
        try case n1 => ((try simp))
        try case n2 => (intro u hu; simp [srow] at hu; subst hu; rfl)
        try case n3 => ((try rw [HKl.out]); omega)
        try case n4 => ((try rw [HKl.out]); unfold maxLen; omega)
        try case n5 => ((try simp); omega)
        intro v6 w6 o6 b6
        have HO6 : Hid (OwnR w6 w1.heap.size 9 1 v6 (((s.names.take (k + 1)).map (·.1)).map srow)) := by
          unfold Hid
          rw [HT.out, List.map_append, List.map_append]
          simpa using o6
        have HU6 : Hid (Below w1.heap.size w1 w6) := (up_al up.out _).trans b6
        clear o6 b6
        go_wp2_with fail
        exact ⟨⟨k + 1, by omega, by go_num, HO6, HU6⟩, by simp [intOf]; omega⟩
      · have hlt' : ¬ (k : Int) < (s.names.length : Int) := by omega
        obtain rfl : k = s.names.length := by omega
        rw [List.take_length] at HO
        have HO6 := HO
        go_wp2_with fail
        go_ret2
        rw [HR.out]
        exact ⟨_, rfl, HO6.out.mono bx1.out.up.size, up_trans bx1.out.up up.out⟩
end Go.Proofs.YtnchjlimkgbfpaaGreatDoor
