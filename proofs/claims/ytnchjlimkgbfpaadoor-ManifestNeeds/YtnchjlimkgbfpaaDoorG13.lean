/- The texts R4, R5, R6, T1, T2, in this order. -/
import Derived.Test.YtnchjlimkgbfpaaDoorG12
import Derived.Lib.SlBytesConst
import Derived.Deep.RegionHeld3

/- The program's Crash. -/
namespace Go.Proofs.YtnchjlimkgbfpaaDoor
open Go.RowKit
set_option linter.unusedVariables false
set_option linter.unusedSimpArgs false

/-- Numbers as they are read. -/
def IntsW (w : World) (v : Value) (l : List Int) : Prop := (∀ x ∈ l, In64 x) ∧ Rws 1 w v (l.map fun x => [Value.int .i64 x])
theorem IntsW.up {w w' : World} {v : Value} {l : List Int} (h : IntsW w v l) (hb : Below w.heap.size w w') : IntsW w' v l := ⟨h.1, h.2.up hb⟩
theorem IntsW.len {w : World} {v : Value} {l : List Int} (h : IntsW w v l) : ∃ a cap, v = .slice a l.length cap ∧ l.length ≤ cap ∧ cap ≤ maxLen := by
  obtain ⟨a, cap, e, h1, h2⟩ := h.2.len
  rw [List.length_map] at e h1
  exact ⟨a, cap, e, h1, h2⟩
theorem IntsW.at {w : World} {v : Value} {l : List Int} (h : IntsW w v l) (k : Nat) (hk : k < l.length) : ∃ b off cap, v = .slice (some ⟨b, off, none⟩) l.length cap ∧ w.cell? ⟨b, off + k, none⟩ = some (.int .i64 (l.getD k 0)) ∧ In64 (l.getD k 0) := by
  obtain ⟨b, off, cap, e, h1, h2, hc⟩ := h.2.at k (by rw [List.length_map]; exact hk)
  rw [List.length_map] at e
  have hr : (l.map fun x => [Value.int .i64 x]).getD k [] = [Value.int .i64 (l.getD k 0)] := by simp [List.getD, hk]
  rw [hr] at hc
  have c0 := hc 0 _ rfl
  simp only [Nat.mul_one, Nat.add_zero] at c0
  exact ⟨b, off, cap, e, c0, h.1 _ (by simp [List.getD, hk])⟩

/-- The first k files, cut. -/
def cutTo (keep : List Int) (l : List (Int × List Int × Int)) (k : Nat) : List (Int × List Int × Int) := l.mapIdx fun i f => if i < k then cutF f (keep.getD i 0) else f

theorem cutTo_zero (keep : List Int) (l : List (Int × List Int × Int)) : cutTo keep l 0 = l := by
  unfold cutTo
  apply List.ext_getElem (by simp)
  intro i h1 h2
  simp
theorem cutTo_len (keep : List Int) (l : List (Int × List Int × Int)) (k : Nat) : (cutTo keep l k).length = l.length := by simp [cutTo]
theorem cutTo_at (keep : List Int) (l : List (Int × List Int × Int)) (k i : Nat) (hi : i < l.length) : (cutTo keep l k).getD i (0, [], 0) = if i < k then cutF (l.getD i (0, [], 0)) (keep.getD i 0) else l.getD i (0, [], 0) := by
  simp [cutTo, List.getD, hi]
theorem cutTo_succ (keep : List Int) (l : List (Int × List Int × Int)) (k : Nat) (hk : k < l.length) : (cutTo keep l k).set k (cutF (l.getD k (0, [], 0)) (keep.getD k 0)) = cutTo keep l (k + 1) := by
  unfold cutTo
  apply List.ext_getElem (by simp)
  intro i h1 h2
  have hi : i < l.length := by simpa using h2
  rw [List.getElem_set, List.getElem_mapIdx, List.getElem_mapIdx]
  by_cases e : k = i
  · subst e
    rw [if_pos rfl, if_pos (by omega)]
    simp [List.getD, hk]
  · rw [if_neg e]
    by_cases c : i < k
    · rw [if_pos c, if_pos (by omega)]
    · rw [if_neg c, if_neg (by omega)]

def crashP (s : St) (keep : List Int) : St × Int := if checkP s then (sweptOf { s with files := cutTo keep s.files s.files.length, names := s.safe }, 0) else (z0, 9)

/-- The rows' block was written: the files are others. -/
theorem OpenS.setFiles {w w1 : World} {base B : Nat} {s : St} {g cf : Nat} {an : Option Addr} {cn : Nat} {as' : Option Addr} {cs' : Nat} {m m' : List FRow} (h : OpenS w base B s (some ⟨g, 0, none⟩) cf an cn as' cs' m) (hl : m'.length = m.length) (hg : w.grownBy w1 (some g)) (hf : OwnF w1 base (.slice (some ⟨g, 0, none⟩) m.length cf) m') (hbase : base ≤ w.heap.size) :
    OpenS w1 base B { s with files := m'.map (·.2) } (some ⟨g, 0, none⟩) cf an cn as' cs' m' ∧ Beside base B w w1 := by
  obtain ⟨hB, hb, hm, of, on, os, hap, hi1, hi2⟩ := h
  have hgb := of.1.2.lt g rfl
  have nB : some B ≠ some g := by
    have := own_blk_ne of.1.2 hb (by decide)
    simp [Value.ownBlock] at this
    intro q
    injection q with q
    exact this q.symm
  refine ⟨⟨trivial, ?_, rfl, ?_, on.far hg (own_own_ne on.2.2 of.1.2 (by decide)), os.far hg (own_own_ne os.2.2 of.1.2 (by decide)), hap, hi1, hi2⟩, ?_⟩
  · rw [hl]
    exact blk_grown hb hg nB
  · rw [hl]
    exact hf
  · exact (Beside.refl base B w).grown hg hbase (fun k hk => by injection hk with hk; exact .inl (by omega))

theorem OpenS.same {w : World} {base B : Nat} {s s' : St} {af : Option Addr} {cf : Nat} {an : Option Addr} {cn : Nat} {as' : Option Addr} {cs' : Nat} {m : List FRow} (h : OpenS w base B s af cf an cn as' cs' m) (e : s = s') : OpenS w base B s' af cf an cn as' cs' m := e ▸ h

theorem ok_file {s : St} (h : filesMayOf s = true) (i : Nat) (hi : i < s.files.length) : 0 ≤ (fileD s i).2.2 ∧ (fileD s i).2.2 ≤ ((fileD s i).2.1.length : Int) := by
  have := filesMay_ok h i hi
  unfold okFile at this
  simp only [Bool.and_eq_true, decide_eq_true_eq] at this
  exact ⟨this.1.2, this.2⟩

theorem crash_next {s : St} {keep : List Int} {w1 y w3 : World} {B g cf2 cn2 cs2 : Nat} {an2 as2 : Option Addr} {m3 : List FRow} {k : Nat} {ix : Value} (hk : k < s.files.length) (hm : m3.length = s.files.length) (hx : ix = .int .i64 ((k + 1 : Nat) : Int)) (O : Hid (OpenS w3 w1.heap.size B { s with files := cutTo keep s.files (k + 1) } (some ⟨g, 0, none⟩) cf2 an2 cn2 as2 cs2 m3)) (be : Hid (Beside w1.heap.size B y w3)) :
    (∃ (k : Nat) (m : List FRow), k ≤ s.files.length ∧ m.length = s.files.length ∧ ix = .int .i64 k ∧ Hid (OpenS w3 w1.heap.size B { s with files := cutTo keep s.files k } (some ⟨g, 0, none⟩) cf2 an2 cn2 as2 cs2 m) ∧ Hid (Beside w1.heap.size B y w3)) ∧ s.files.length - (intOf ix).toNat < s.files.length - (intOf (Value.int .i64 (k : Int))).toNat := by
  refine ⟨⟨k + 1, m3, by omega, hm, hx, O, be⟩, ?_⟩
  subst hx
  simp only [intOf]
  omega

end Go.Proofs.YtnchjlimkgbfpaaDoor

/- The program's Run. -/
namespace Go.Proofs.YtnchjlimkgbfpaaDoor
open Go.RowKit
set_option linter.unusedVariables false
set_option linter.unusedSimpArgs false

theorem results_state2 {fn : Func} {r k j : Nat} (h : fn.results = #[.cell r 42, .tmp k, .tmp j]) (tmps : Array Value) (w : World) {N : Nat} {a b c d e x y : Value} (ht : tmps.getD r undef = .pointer (some ⟨N, 0, none⟩)) (hx : tmps.getD k undef = x) (hy : tmps.getD j undef = y)
    (hc : w.heap[N]? = some (.cells #[a, b, c, d, e] 42)) : (results fn tmps).run Tryd.prog w = .ok (.tuple #[.agg #[a, b, c, d, e], x, y]) w := by
  have c0 := blk_cell hc 0 a rfl
  have c1 := blk_cell hc 1 b rfl
  have c2 := blk_cell hc 2 c rfl
  have c3 := blk_cell hc 3 d rfl
  have c4 := blk_cell hc 4 e rfl
  have ht' : tmps[r]?.getD undef = .pointer (some ⟨N, 0, none⟩) := by simpa using ht
  have hx' : tmps[k]?.getD undef = x := by simpa using hx
  have hy' : tmps[j]?.getD undef = y := by simpa using hy
  simp only [results, h]
  simp [ht', hx', hy', go_sem, c0, c1, c2, c3, c4]

/-- Acts, as they are read. -/
abbrev ARow := Value × Ac
def arow (y : ARow) : List Value := [.int .i64 y.2.what, .string (strOfNums y.2.name), .string (strOfNums y.2.dest), y.1]
def ActsW (w : World) (v : Value) (l : List Ac) : Prop := ∃ m : List ARow, m.map (·.2) = l ∧ Rws 4 w v (m.map arow) ∧ ∀ y ∈ m, Octs w y.1 y.2.data ∧ okAc y.2
theorem ActsW.up {w w' : World} {v : Value} {l : List Ac} (h : ActsW w v l) (hb : Below w.heap.size w w') : ActsW w' v l := by
  obtain ⟨m, h1, h2, h3⟩ := h
  exact ⟨m, h1, h2.up hb, fun y hy => ⟨(h3 y hy).1.up hb, (h3 y hy).2⟩⟩
theorem ActsW.len {w : World} {v : Value} {l : List Ac} (h : ActsW w v l) : ∃ a cap, v = .slice a l.length cap ∧ l.length ≤ cap ∧ cap ≤ maxLen := by
  obtain ⟨m, rfl, h2, _⟩ := h
  obtain ⟨a, cap, e, h1, h2⟩ := h2.len
  rw [List.length_map] at e h1
  rw [List.length_map]
  exact ⟨a, cap, e, h1, h2⟩
def noAc : Ac := ⟨0, [], [], []⟩
theorem ActsW.at {w : World} {v : Value} {l : List Ac} (h : ActsW w v l) (k : Nat) (hk : k < l.length) : ∃ b off cap ad cd, v = .slice (some ⟨b, off, none⟩) l.length cap ∧
    w.cell? ⟨b, off + k * 4, none⟩ = some (.int .i64 (l.getD k noAc).what) ∧ w.cell? ⟨b, off + k * 4 + 1, none⟩ = some (.string (strOfNums (l.getD k noAc).name)) ∧ w.cell? ⟨b, off + k * 4 + 2, none⟩ = some (.string (strOfNums (l.getD k noAc).dest)) ∧ w.cell? ⟨b, off + k * 4 + 3, none⟩ = some (.slice ad (l.getD k noAc).data.length cd) ∧
    AcW w (.agg #[.int .i64 (l.getD k noAc).what, .string (strOfNums (l.getD k noAc).name), .string (strOfNums (l.getD k noAc).dest), .slice ad (l.getD k noAc).data.length cd]) (l.getD k noAc) := by
  obtain ⟨m, rfl, h2, h3⟩ := h
  rw [List.length_map] at hk ⊢
  obtain ⟨b, off, cap, e, _, _, hc⟩ := h2.at k (by rw [List.length_map]; exact hk)
  rw [List.length_map] at e
  have hr : (m.map arow).getD k [] = arow m[k] := by simp [List.getD, hk]
  have hr2 : (m.map (·.2)).getD k noAc = m[k].2 := by simp [List.getD, hk]
  rw [hr] at hc
  rw [hr2]
  have h4 := h3 m[k] (List.getElem_mem hk)
  obtain ⟨ad, cd, evd, _⟩ := h4.1.slice
  have c0 := hc 0 _ rfl
  have c1 := hc 1 _ rfl
  have c2 := hc 2 _ rfl
  have c3 := hc 3 _ rfl
  rw [evd] at c3 h4
  exact ⟨b, off, cap, ad, cd, e, c0, c1, c2, c3, _, rfl, h4.1, h4.2⟩

/-- The state behind k acts. -/
def afterN (s : St) (l : List Ac) (k : Nat) : St := (l.take k).foldl (fun s a => (actP s a).1) s
theorem afterN_zero (s : St) (l : List Ac) : afterN s l 0 = s := rfl
theorem afterN_succ (s : St) (l : List Ac) (k : Nat) (hk : k < l.length) : afterN s l (k + 1) = (actP (afterN s l k) (l.getD k noAc)).1 := by
  unfold afterN
  rw [take_snoc l k noAc hk, List.foldl_append]
  rfl

def goP : St → List Ac → St × Int × Int
  | s, [] => (s, 0, 0)
  | s, a :: l => if (actP s a).2 = 0 then ((goP (actP s a).1 l).1, (goP (actP s a).1 l).2.1 + 1, (goP (actP s a).1 l).2.2) else ((actP s a).1, 0, (actP s a).2)

theorem goP_at : ∀ (l : List Ac) (s : St) (k : Nat), k ≤ l.length → (∀ j, j < k → (actP (afterN s l j) (l.getD j noAc)).2 = 0) → goP s l = ((goP (afterN s l k) (l.drop k)).1, (goP (afterN s l k) (l.drop k)).2.1 + k, (goP (afterN s l k) (l.drop k)).2.2)
  | l, s, 0, _, _ => by simp [afterN_zero]
  | [], s, k + 1, hk, _ => by simp at hk
  | a :: l, s, k + 1, hk, h => by
    have h0 : (actP s a).2 = 0 := h 0 (by omega)
    have hn : ∀ j, afterN s (a :: l) (j + 1) = afterN (actP s a).1 l j := fun j => rfl
    have ih := goP_at l (actP s a).1 k (by simpa using hk) (fun j hj => by
      have := h (j + 1) (by omega)
      rw [hn] at this
      simpa using this)
    rw [hn, List.drop_succ_cons, goP, if_pos h0, ih]
    simp
    omega

def runP (s : St) (l : List Ac) : St × Int × Int := if checkP s then goP s l else (z0, 0, 9)

def OkTo (s : St) (l : List Ac) (k : Nat) : Prop := ∀ j, j < k → (actP (afterN s l j) (l.getD j noAc)).2 = 0
theorem run_end {s : St} {l : List Ac} (h : OkTo s l l.length) : goP s l = (afterN s l l.length, (l.length : Int), 0) := by
  rw [goP_at l s l.length (Nat.le_refl _) h, List.drop_length]
  simp [goP]
theorem run_stop {s : St} {l : List Ac} {k : Nat} (h : OkTo s l k) (hk : k < l.length) (hz : ¬ (actP (afterN s l k) (l.getD k noAc)).2 = 0) : goP s l = ((actP (afterN s l k) (l.getD k noAc)).1, (k : Int), (actP (afterN s l k) (l.getD k noAc)).2) := by
  rw [goP_at l s k (by omega) h]
  have e : l.drop k = l.getD k noAc :: l.drop (k + 1) := by
    rw [List.drop_eq_getElem_cons hk]
    simp [List.getD, hk]
  rw [e, goP, if_neg hz]
  simp
theorem okTo_succ {s : St} {l : List Ac} {k : Nat} (h : OkTo s l k) (hz : (actP (afterN s l k) (l.getD k noAc)).2 = 0) : OkTo s l (k + 1) := by
  intro j hj
  by_cases e : j = k
  · rw [e]; exact hz
  · exact h j (by omega)

theorem run_next {s : St} {l : List Ac} {w1 y w3 : World} {B : Nat} {k : Nat} {ix : Value} (hk : k < l.length) (hx : ix = .int .i64 ((k + 1 : Nat) : Int)) (O : Hid (OwnS w3 w1.heap.size B (afterN s l (k + 1)))) (be : Hid (Beside w1.heap.size B y w3)) (ok : Hid (OkTo s l (k + 1))) :
    (∃ (k : Nat), k ≤ l.length ∧ ix = .int .i64 k ∧ Hid (OwnS w3 w1.heap.size B (afterN s l k)) ∧ Hid (Beside w1.heap.size B y w3) ∧ Hid (OkTo s l k)) ∧ l.length - (intOf ix).toNat < l.length - (intOf (Value.int .i64 (k : Int))).toNat := by
  refine ⟨⟨k + 1, by omega, hx, O, be, ok⟩, ?_⟩
  subst hx
  simp only [intOf]
  omega

end Go.Proofs.YtnchjlimkgbfpaaDoor

/- The page's example. -/
namespace Go.Proofs.YtnchjlimkgbfpaaDoor
open Go.RowKit
set_option linter.unusedVariables false
set_option linter.unusedSimpArgs false

theorem Rws.taken {sz : Nat} {w : World} {a : Option Addr} {n c : Nat} {css : List (List Value)} (h : Rws sz w (.slice a n c) css) (k : Nat) (hk : k ≤ css.length) : Rws sz w (.slice a k c) (css.take k) := by
  obtain ⟨h1, a', c', e, h2, h3, h4, h5⟩ := h
  injection e with e1 e2 e3
  subst e1
  subst e3
  have hl : (css.take k).length = k := by rw [List.length_take]; omega
  refine ⟨fun cs hcs => h1 cs (List.mem_of_mem_take hcs), a, c, by rw [hl], by omega, h3, h4, ?_⟩
  intro hne
  obtain ⟨b, off, e, hc⟩ := h5 (by intro q; rw [q] at hne; simp at hne)
  refine ⟨b, off, e, fun j cs hj i u hi => hc j cs ?_ i u hi⟩
  rw [List.getElem?_take] at hj
  split at hj
  · exact hj
  · cases hj

theorem ActsW.taken {w : World} {a : Option Addr} {n c : Nat} {l : List Ac} (h : ActsW w (.slice a n c) l) (k : Nat) (hk : k ≤ l.length) : ActsW w (.slice a k c) (l.take k) := by
  obtain ⟨m, rfl, h2, h3⟩ := h
  rw [List.length_map] at hk
  refine ⟨m.take k, by rw [List.map_take], ?_, fun y hy => h3 y (List.mem_of_mem_take hy)⟩
  rw [List.map_take]
  exact h2.taken k (by rw [List.length_map]; exact hk)

def xyzL : List Ac := [⟨1, [97], [], []⟩, ⟨2, [97], [], [120, 121, 122]⟩, ⟨3, [97], [], []⟩, ⟨6, [], [], []⟩]

end Go.Proofs.YtnchjlimkgbfpaaDoor

/- The law's own makers of the program's states: names, octets. -/
namespace Go.Proofs.YtnchjlimkgbfpaaDoor
open Go.RowKit
set_option linter.unusedVariables false
set_option linter.unusedSimpArgs false

set_option maxHeartbeats 400000 in
theorem copyB_any (l : List Int) (v : Value) (w : World) (hv : Octs w v l) (hl : l.length ≤ 140737488355328) :
    Calls Tryd.prog 29 #[v] w fun e w' => ∃ v', e = .returned v' ∧ OwnB w' w.heap.size v' l ∧ Below w.heap.size w w' := by
  have HV : Hid (Octs w v l) := hv
  clear hv
  go_enter Tryd.func29, Tryd.ntmps29
  go_wp2_with (at_builtin; refine wpList_append_octs _ rfl _ _ rfl w.heap.size _ [] rfl (World.ownsRow_nil _ _ _ _) _ l rfl HV.out ?c1 (Nat.le_refl _) ?_)
  case c1 => simpa using hl
  intro v' w' hown hg
  go_wp2
  go_ret
  refine ⟨_, rfl, hown, ?_⟩
  exact (Below.refl _ _).grown hg (Nat.le_refl _) (by simp [Value.ownBlock])

set_option maxHeartbeats 2000000 in
set_option maxRecDepth 2000 in
theorem names_any (l : List (List Int × Int)) (v : Value) (w : World) (hv : NamesW w v l) (hl : l.length * 24 ≤ 140737488351232) :
    Calls Tryd.prog 20 #[v] w fun e w' => ∃ v', e = .returned v' ∧ OwnN w' w.heap.size 74 v' l ∧ Below w.heap.size w w' := by
  have HN : Hid (NamesW w v l) := hv
  obtain ⟨an, cn, en, _, _⟩ := hv.len
  subst en
  clear hv
  go_enter Tryd.func20, Tryd.ntmps20
  go_wp2_with fail
  go_loopw [3, 4] (fun vb i wr => ∃ k : Nat, k ≤ l.length ∧ i = .int .i64 k ∧ Hid (OwnR wr w.heap.size 74 2 vb ((l.take k).map nrow)) ∧ Hid (Below w.heap.size w wr)) (fun _ i _ => l.length - (intOf i).toNat)
  case atStart => exact ⟨0, Nat.zero_le _, rfl, OwnR.nil _ _ _ _, Below.refl _ _⟩
  case round =>
    obtain ⟨k, hk, rfl, HO, up⟩ := hrel
    by_cases hlt : k < l.length
    · have hlt' : (k : Int) < (l.length : Int) := by omega
      obtain ⟨b, off, cap', e, _, _, c0, c1, ho, hln, hi'⟩ := (HN.out.up up.out).at k hlt
      simp at e
      obtain ⟨rfl, rfl⟩ := e
      have HT : Hid (l.take (k + 1) = l.take k ++ [l.getD k ([], 0)]) := take_snoc l k _ hlt
      have HKl : Hid (((l.take k).map nrow).length = k) := by simp [Hid]; omega
      generalize l.getD k ([], 0) = y at *
      obtain ⟨ys, yi⟩ := y
      simp only at c0 c1 HT
      have hsz2 := up.out.size
      obtain ⟨vl, cl, ev5, _, _⟩ := (Rws.own HO.out).len
      subst ev5
      rw [HKl.out] at HO ⊢
      go_wp2_with (at_builtin; refine wpList_append_row wr rfl (.tmp 11) (.tmp 16) 40 74 (.agg #[.string ⟨#[]⟩, .int .i64 0]) 2 24 rfl Tryd.underlying40 Tryd.info74 rfl (by decide) w.heap.size (.slice vl k cl) _ rfl HO.out (nrow (ys, yi)) _ wr.heap.size rfl rfl rfl rfl ?n2 ?n3 ?n4 hsz2 ?_)
      try case n2 => (intro u hu; simp [nrow] at hu; rcases hu with rfl | rfl <;> rfl)
      try case n3 => ((try rw [HKl.out]); omega)
      try case n4 => ((try rw [HKl.out]); unfold maxLen; omega)
      intro v6 w6 o6 b6
      have HO6 : Hid (OwnR w6 w.heap.size 74 2 v6 ((l.take (k + 1)).map nrow)) := by
        unfold Hid
        rw [HT.out, List.map_append]
        simpa using o6
      have HU6 : Hid (Below w.heap.size w w6) := up.out.trans b6
      clear o6 b6
      go_wp2_with fail
      exact ⟨⟨k + 1, by omega, by go_num, HO6, HU6⟩, by simp [intOf]; omega⟩
    · have hlt' : ¬ (k : Int) < (l.length : Int) := by omega
      obtain rfl : k = l.length := by omega
      rw [List.take_length] at HO
      have HO6 := HO
      go_wp2_with fail
      go_ret
      exact ⟨_, rfl, ⟨HN.out.1, HO6.out⟩, up.out⟩
end Go.Proofs.YtnchjlimkgbfpaaDoor

/- The law's own makers of the program's states: files. -/
namespace Go.Proofs.YtnchjlimkgbfpaaDoor
open Go.RowKit
set_option linter.unusedVariables false
set_option linter.unusedSimpArgs false

/-- One file more. -/
theorem OwnF.snoc {w' w6 : World} {base : Nat} {vl : Option Addr} {n cl : Nat} {v6 : Value} {m : List FRow} {y : FRow} (h : OwnF w' base (.slice vl n cl) m) (hb : OwnB w' base y.1 y.2.2.1) (hok : okRow y) (hnew : ∀ z ∈ m, Apart z.1 y.1) (o : Obj) (o6 : OwnR w6 base 79 3 v6 (m.map frow ++ [frow y])) (g6 : (w'.alloc o).grownBy w6 (Value.ownBlock (.slice vl n cl))) : OwnF w6 base v6 (m ++ [y]) := by
  have u := up_al (Below.refl w'.heap.size w') o
  have hr := (h.up u).1
  refine ⟨by rw [List.map_append]; exact o6, ?_, ?_⟩
  · intro z hz
    rcases List.mem_append.1 hz with hz | hz
    · have := (h.up u).2.1 z hz
      exact ⟨this.1.far g6 (own_own_ne this.1 hr.2 (by decide)), this.2⟩
    · simp at hz
      subst hz
      exact ⟨(hb.up u).far g6 (own_own_ne (hb.up u) hr.2 (by decide)), hok⟩
  · rw [List.pairwise_append]
    refine ⟨h.2.2, by simp, ?_⟩
    intro a ha b hb'
    simp at hb'
    subst hb'
    exact hnew a ha

set_option maxHeartbeats 4000000 in
set_option maxRecDepth 2000 in
theorem some_any (l : List (Int × List Int × Int)) (v : Value) (w : World) (hv : FilesW w v l) (hl : l.length * 40 ≤ 140737488351232) :
    Calls Tryd.prog 19 #[v] w fun e w' => ∃ v', e = .returned v' ∧ ∃ m : List FRow, m.map (·.2) = l ∧ OwnF w' w.heap.size v' m ∧ Below w.heap.size w w' := by
  have HV : Hid (FilesW w v l) := hv
  obtain ⟨an, cn, en, _, _⟩ := hv.len
  subst en
  clear hv
  go_enter Tryd.func19, Tryd.ntmps19
  go_wp2_with fail
  go_loopw [3, 4] (fun vb i wr => ∃ (k : Nat) (m : List FRow) (vl : Option Addr) (cl : Nat), k ≤ l.length ∧ i = .int .i64 k ∧ vb = .slice vl k cl ∧ Hid (m.length = k ∧ m.map (·.2) = l.take k) ∧ Hid (OwnF wr w.heap.size (.slice vl k cl) m) ∧ Hid (Below w.heap.size w wr)) (fun _ i _ => l.length - (intOf i).toNat)
  case atStart => exact ⟨0, [], none, 0, Nat.zero_le _, rfl, rfl, ⟨rfl, rfl⟩, ⟨OwnR.nil _ _ _ _, (fun y hy => by cases hy), List.Pairwise.nil⟩, Below.refl _ _⟩
  case round =>
    obtain ⟨k, m, vl, cl, hk, rfl, rfl, HM, HO, up⟩ := hrel
    by_cases hlt : k < l.length
    · have hlt' : (k : Int) < (l.length : Int) := by omega
      obtain ⟨b, off, cap', u, e, _, _, c0, c1, c2, ho, hln, hi1, hi2⟩ := (HV.out.up up.out).at k hlt
      simp at e
      obtain ⟨rfl, rfl⟩ := e
      have HT : Hid (l.take (k + 1) = l.take k ++ [l.getD k (0, [], 0)]) := take_snoc l k _ hlt
      generalize l.getD k (0, [], 0) = y at *
      obtain ⟨yi, yd, ys⟩ := y
      simp only at c0 c1 c2 ho hln hi1 hi2
      obtain ⟨ad, cd, eu, _⟩ := ho.slice
      subst eu
      obtain ⟨dn, hdn⟩ : ∃ dn, dn = yd.length := ⟨_, rfl⟩
      rw [← hdn] at c1
      have HK : Hid (k < l.length) := hlt
      have HBl : Hid (b < w.heap.size) := by
        obtain ⟨b', off', cap2, u', e', _, _, z0, _⟩ := HV.out.at k hlt
        simp at e'
        obtain ⟨⟨rfl, rfl⟩, _⟩ := e'
        exact World.block_lt_of_cell? w _ z0
      have HG : Hid (∀ (w' w6 : World) (o : Obj), OwnF w' w.heap.size (.slice vl k cl) m → (w'.alloc o).grownBy w6 (Value.ownBlock (.slice vl k cl)) → ∀ o2 x, w'.cell? ⟨b, o2, none⟩ = some x → w6.cell? ⟨b, o2, none⟩ = some x) := by
        intro w' w6 o hF hg o2 x hc
        refine hg.cell (Lib.cell?_alloc_marked o hc) ?_
        intro q
        have := (hF.1.2.lt b q.symm).1
        have := HBl.out
        omega
      have HC : Hid (∀ X, Below wr.heap.size wr X → Calls Tryd.prog 29 #[.slice ad dn cd] X fun e w' => ∃ a2 c2, e = .returned (.slice a2 dn c2) ∧ w'.cell? ⟨b, off + k * 3, none⟩ = some (.int .i64 yi) ∧ w'.cell? ⟨b, off + k * 3 + 1, none⟩ = some (.slice ad dn cd) ∧ w'.cell? ⟨b, off + k * 3 + 2, none⟩ = some (.int .i64 ys) ∧
          Hid (OwnF w' w.heap.size (.slice vl k cl) m ∧ OwnB w' wr.heap.size (.slice a2 dn c2) yd ∧ Below wr.heap.size wr w')) := by
        intro X hX
        have hoX := ho.up hX
        rw [← hdn] at hoX
        refine (copyB_any yd _ X hoX hln).mono ?_
        rintro e w' ⟨v', rfl, ob, hu⟩
        obtain ⟨a2, cc, ev, _⟩ := (Octs.own ob ho.1).slice
        rw [← hdn] at ev
        subst ev
        have uu := up_trans hX hu
        exact ⟨a2, cc, rfl, (uu.cell (World.block_lt_of_cell? wr _ c0)).trans c0, (uu.cell (World.block_lt_of_cell? wr _ c1)).trans c1, (uu.cell (World.block_lt_of_cell? wr _ c2)).trans c2, HO.out.up uu, ob.mono hX.size, uu⟩
      have HY : Hid (okRow (.slice none 0 0, yi, yd, ys)) := ⟨ho.1, hln, hi1, hi2⟩
      have hsz2 : Hid (w.heap.size ≤ wr.heap.size) := up.out.size
      have HL : Hid (l.length * 40 ≤ 140737488351232) := hl
      have HA1 : Hid (∀ (w' : World) (o : Obj), OwnF w' w.heap.size (.slice vl k cl) m → OwnR (w'.alloc o) w.heap.size 79 3 (.slice vl k cl) (m.map frow)) := fun w' o h => (h.up (up_al (Below.refl _ _) o)).1
      have HA2 : Hid (∀ (w' : World) a2 cc, Rws 3 (w'.alloc (.cells #[.int .i64 yi, .slice a2 dn cc, .int .i64 ys] 79)) (.slice (some ⟨w'.heap.size, 0, none⟩) 1 1) [[.int .i64 yi, .slice a2 dn cc, .int .i64 ys]]) := by
        intro w' a2 cc
        have := Rws.made (sz := 3) w' 79 [[.int .i64 yi, .slice a2 dn cc, .int .i64 ys]] (by intro cs hcs; simp at hcs; subst hcs; rfl) (by simp [maxLen])
        simpa using this
      have HA3 : Hid (∀ a2 cc, ∀ cs ∈ [[Value.int .i64 yi, .slice a2 dn cc, .int .i64 ys]], ∀ u ∈ cs, u.oneCell' = true) := by
        intro a2 cc cs hcs u hu
        simp at hcs
        subst hcs
        simp at hu
        rcases hu with rfl | rfl | rfl <;> rfl
      have HA4 : Hid ((((m.map frow).length + 1) + ((m.map frow).length + 1) / 4 + 192) * 40 ≤ 281474976710656 ∧ (m.map frow).length + 1 ≤ maxLen) := by
        rw [List.length_map, HM.out.1]
        have h1 := HL.out
        have h2 := HK.out
        unfold maxLen
        constructor <;> omega
      have HA5 : Hid (∀ (w' : World) (o : Obj), Below wr.heap.size wr w' → w.heap.size ≤ (w'.alloc o).heap.size) := by
        intro w' o h
        have h1 := h.size
        have h2 := hsz2.out
        simp
        omega
      clear ho hln hi1 hi2 hdn hl
      go_upto_region 5 with fail
      go_region_held3 (fun w' => w'.cell? ⟨b, off + k * 3, none⟩ = some (.int .i64 yi) ∧ w'.cell? ⟨b, off + k * 3 + 1, none⟩ = some (.slice ad dn cd) ∧ w'.cell? ⟨b, off + k * 3 + 2, none⟩ = some (.int .i64 ys)) (first | exact ⟨y0, y1, y2⟩ | exact ⟨Lib.cell?_alloc_marked _ y0, Lib.cell?_alloc_marked _ y1, Lib.cell?_alloc_marked _ y2⟩ | exact ⟨t0, t1, t2⟩ | (simp [go_sem, c0, c1, c2]; done)) (first | (go_at_call 29; refine (HC.out _ (by repeat (first | exact Below.refl _ _ | apply up_dr | apply up_al))).mono ?_; rintro e w' ⟨a2, cc, rfl, y0, y1, y2, hs⟩) | (refine step_append_rows _ rfl (.tmp 11) (.tmp 29) 39 79 (.agg #[.int .i64 0, .slice none 0 0, .int .i64 0]) 3 40 rfl Tryd.underlying39 Tryd.info79 rfl (by decide) w.heap.size (.slice vl k cl) (m.map frow) rfl (HA1.out _ _ hs.out.1) _ [[.int .i64 yi, .slice a2 dn cc, .int .i64 ys]] rfl (HA2.out _ _ _) (HA3.out _ _) HA4.out.1 HA4.out.2 (HA5.out _ _ hs.out.2.2) ?_; intro v6 w6 o6 g6; have t0 := HG.out _ _ _ hs.out.1 g6 _ _ y0; have t1 := HG.out _ _ _ hs.out.1 g6 _ _ y1; have t2 := HG.out _ _ _ hs.out.1 g6 _ _ y2))
      all_goals
        obtain ⟨vl', cl', ev6, _, _⟩ := (Rws.own o6).len
        have hl6 : (m.map frow ++ [[Value.int .i64 yi, .slice a2 dn cc, .int .i64 ys]]).length = k + 1 := by
          rw [List.length_append, List.length_map, HM.out.1]
          rfl
        rw [hl6] at ev6
        subst ev6
        have HF6 : Hid (OwnF w6 w.heap.size (.slice vl' (k + 1) cl') (m ++ [(.slice a2 dn cc, yi, yd, ys)])) := hs.out.1.snoc (y := (.slice a2 dn cc, yi, yd, ys)) (hs.out.2.1.mono hsz2.out) HY.out (fun z hz => apart_new (HO.out.2.1 z hz).1 hs.out.2.1) _ o6 g6
        have HM6 : Hid ((m ++ [((.slice a2 dn cc, yi, yd, ys) : FRow)]).length = k + 1 ∧ (m ++ [((.slice a2 dn cc, yi, yd, ys) : FRow)]).map (·.2) = l.take (k + 1)) := by
          refine ⟨by rw [List.length_append, HM.out.1]; rfl, ?_⟩
          rw [HT.out, List.map_append, HM.out.2]
          rfl
        have HU6 : Hid (Below w.heap.size w w6) := by
          have uu := up_al (up_trans up.out hs.out.2.2) (.cells #[.int .i64 yi, .slice a2 dn cc, .int .i64 ys] 79)
          exact uu.grown g6 uu.size (fun j hj => (hs.out.1.1.2.lt j hj).1)
        have HN6 : Hid (k + 1 ≤ l.length) := HK.out
        have hk62 : (k : Int) ≤ 140737488351232 := by
          have h1 := HL.out
          have h2 := HK.out
          omega
        clear o6 g6 hl6 t0 t1 t2
        go_wp2_with fail
        exact ⟨⟨k + 1, _, vl', cl', HN6.out, by go_num, rfl, HM6, HF6, HU6⟩, by have := HN6.out; simp [intOf]; omega⟩
    · have hlt' : ¬ (k : Int) < (l.length : Int) := by omega
      obtain rfl : k = l.length := by omega
      rw [List.take_length] at HM
      go_wp2_with fail
      go_ret
      exact ⟨_, rfl, m, HM.out.2, HO.out, up.out⟩
end Go.Proofs.YtnchjlimkgbfpaaDoor
