/- The texts R7, W1, T1, T4, X1, M5h, T2, T3, S1, in this order. -/
import Derived.Test.YtnchjlimkgbfpaaGreatDoorZ12
import Derived.Deep.QuietTactic
import Derived.BigQuiet
import Derived.Deep.RegionHeld3

namespace Go.Proofs.YtnchjlimkgbfpaaGreatDoor
open Go.RowKit
set_option linter.unusedVariables false
set_option maxRecDepth 20000
set_option linter.unusedSimpArgs false
theorem OwnS.shape {w : World} {base B : Nat} {s : St} (h : OwnS w base B s) : ∃ af nf cf an nn cn as' ns cs', w.heap[B]? = some (.cells #[.int .i64 s.cap, .slice af nf cf, .slice an nn cn, .slice as' ns cs', .int .i64 s.next] 35) ∧ OwnV w base (.agg #[.int .i64 s.cap, .slice af nf cf, .slice an nn cn, .slice as' ns cs', .int .i64 s.next]) s := by
  obtain ⟨vf, vn, vs, hb, ov⟩ := h.take
  obtain ⟨a4, n4, c4, a5, n5, c5, a7, n7, c7, ev4⟩ := ov.shape
  simp at ev4
  obtain ⟨rfl, rfl, rfl⟩ := ev4
  exact ⟨_, _, _, _, _, _, _, _, _, hb, ov⟩
theorem OwnS.lt {w : World} {base B : Nat} {s : St} (h : OwnS w base B s) : B < w.heap.size := by
  obtain ⟨_, _, _, _, _, hb, _⟩ := h
  exact blk_lt hb
def sB : St := ⟨99, [(1, [120, 121, 122], 3)], [([97], 1)], [], 2⟩
def sC : St := ⟨99, [], [], [], 2⟩
theorem al3 : crashP sB [] = (sC, 0) := by kernel_rfl
end Go.Proofs.YtnchjlimkgbfpaaGreatDoor

namespace Go.Proofs.YtnchjlimkgbfpaaGreatDoor
open Go.RowKit
set_option linter.unusedVariables false
set_option maxRecDepth 20000
theorem box_cells {w : World} {B : Nat} {a b c d e : Value} {t : TypeId} (h : w.heap[B]? = some (.cells #[a, b, c, d, e] t)) :
    w.cell? ⟨B, 0, none⟩ = some a ∧ w.cell? ⟨B, 1, none⟩ = some b ∧ w.cell? ⟨B, 2, none⟩ = some c ∧ w.cell? ⟨B, 3, none⟩ = some d ∧ w.cell? ⟨B, 4, none⟩ = some e :=
  ⟨blk_cell h 0 _ rfl, blk_cell h 1 _ rfl, blk_cell h 2 _ rfl, blk_cell h 3 _ rfl, blk_cell h 4 _ rfl⟩
theorem StW.form {w : World} {v : Value} {s : St} (h : StW w v s) : ∃ af cf an cn as' cs', v = .agg #[.int .i64 s.cap, .slice af s.files.length cf, .slice an s.names.length cn, .slice as' s.safe.length cs', .int .i64 s.next] := by
  obtain ⟨vf, vn, vs, rfl, hf, hn, hs, _, _⟩ := h
  obtain ⟨af, cf, rfl, _, _⟩ := hf.len
  obtain ⟨an, cn, rfl, _, _⟩ := hn.len
  obtain ⟨as', cs', rfl, _, _⟩ := hs.len
  exact ⟨_, _, _, _, _, _, rfl⟩
end Go.Proofs.YtnchjlimkgbfpaaGreatDoor

namespace Go.Proofs.YtnchjlimkgbfpaaGreatDoor
open Go.RowKit
set_option linter.unusedVariables false
set_option maxRecDepth 20000
set_option linter.unusedSimpArgs false
set_option maxHeartbeats 400000 in
theorem copyB_any (l : List Int) (v : Value) (w : World) (hv : Octs w v l) (hl : l.length ≤ 140737488355328) :
    Calls Tryz.prog 69 #[v] w fun e w' => ∃ v', e = .returned v' ∧ OwnB w' w.heap.size v' l ∧ Below w.heap.size w w' := by
  have HV : Hid (Octs w v l) := hv
  clear hv
  go_enter Tryz.func69, Tryz.ntmps69
  go_wp2_with (at_builtin; refine wpList_append_octs _ rfl _ _ rfl w.heap.size _ [] rfl (World.ownsRow_nil _ _ _ _) _ l rfl HV.out ?c1 (Nat.le_refl _) ?_)
  case c1 => simpa using hl
  intro v' w' hown hg
  go_wp2
  go_ret
  refine ⟨_, rfl, hown, ?_⟩
  exact (Below.refl _ _).grown hg (Nat.le_refl _) (by simp [Value.ownBlock])
set_option maxHeartbeats 2000000 in
set_option maxRecDepth 20000 in
theorem names_any (l : List (List Int × Int)) (v : Value) (w : World) (hv : NamesW w v l) (hl : l.length * 24 ≤ 140737488351232) :
    Calls Tryz.prog 30 #[v] w fun e w' => ∃ v', e = .returned v' ∧ OwnN w' w.heap.size 146 v' l ∧ Below w.heap.size w w' := by
  have HN : Hid (NamesW w v l) := hv
  obtain ⟨an, cn, en, _, _⟩ := hv.len
  subst en
  clear hv
  go_enter Tryz.func30, Tryz.ntmps30
  go_wp2_with fail
  go_loopw [3, 4] (fun vb i wr => ∃ k : Nat, k ≤ l.length ∧ i = .int .i64 k ∧ Hid (OwnR wr w.heap.size 146 2 vb ((l.take k).map nrow)) ∧ Hid (Below w.heap.size w wr)) (fun _ i _ => l.length - (intOf i).toNat)
  case atStart => exact ⟨0, Nat.zero_le _, rfl, OwnR.nil _ _ _ _, Below.refl _ _⟩
  case round =>
    obtain ⟨k, hk, rfl, HO, up⟩ := hrel
    by_cases hlt : k < l.length
    · have hlt' : (k : Int) < (l.length : Int) := by omega
      obtain ⟨b, off, cap', e, _, _, c0, c1, ho, hln, hi'⟩ := (HN.out.up up.out).at k hlt
      simp at e
      obtain ⟨rfl, rfl⟩ := e
      have HT : Hid (l.take (k + 1) = l.take k ++ [l.getD k ([], 0)]) := take_snoc l k _ hlt
      have HKl : Hid (((l.take k).map nrow).length = k) := by simp [Hid]; omega
      generalize l.getD k ([], 0) = y at *
      obtain ⟨ys, yi⟩ := y
      simp only at c0 c1 HT
      have hsz2 := up.out.size
      obtain ⟨vl, cl, ev5, _, _⟩ := (Rws.own HO.out).len
      subst ev5
      rw [HKl.out] at HO ⊢
      go_wp2_with (at_builtin; refine wpList_append_row wr rfl (.tmp 11) (.tmp 16) 33 146 (.agg #[.string ⟨#[]⟩, .int .i64 0]) 2 24 rfl Tryz.underlying33 Tryz.info146 rfl (by decide) w.heap.size (.slice vl k cl) _ rfl HO.out (nrow (ys, yi)) _ wr.heap.size rfl rfl rfl rfl ?n2 ?n3 ?n4 hsz2 ?_)
      try case n2 => (intro u hu; simp [nrow] at hu; rcases hu with rfl | rfl <;> rfl)
      try case n3 => ((try rw [HKl.out]); omega)
      try case n4 => ((try rw [HKl.out]); unfold maxLen; omega)
      intro v6 w6 o6 b6
      have HO6 : Hid (OwnR w6 w.heap.size 146 2 v6 ((l.take (k + 1)).map nrow)) := by
        unfold Hid
        rw [HT.out, List.map_append]
        simpa using o6
      have HU6 : Hid (Below w.heap.size w w6) := up.out.trans b6
      clear o6 b6
      go_wp2_with fail
      exact ⟨⟨k + 1, by omega, by go_num, HO6, HU6⟩, by simp [intOf]; omega⟩
    · have hlt' : ¬ (k : Int) < (l.length : Int) := by omega
      obtain rfl : k = l.length := by omega
      rw [List.take_length] at HO
      have HO6 := HO
      go_wp2_with fail
      go_ret
      exact ⟨_, rfl, ⟨HN.out.1, HO6.out⟩, up.out⟩
end Go.Proofs.YtnchjlimkgbfpaaGreatDoor

namespace Go.Proofs.YtnchjlimkgbfpaaGreatDoor
open Go.RowKit
set_option linter.unusedVariables false
set_option maxRecDepth 20000
set_option linter.unusedSimpArgs false
def TextsW (w : World) (v : Value) (l : List (List Int)) : Prop := Rws 1 w v (l.map srow)
theorem TextsW.up {w w' : World} {v : Value} {l : List (List Int)} (h : TextsW w v l) (hb : Below w.heap.size w w') : TextsW w' v l := Rws.up h hb
theorem TextsW.len {w : World} {v : Value} {l : List (List Int)} (h : TextsW w v l) : ∃ a cap, v = .slice a l.length cap ∧ l.length ≤ cap ∧ cap ≤ maxLen := by
  obtain ⟨a, cap, e, h1, h2⟩ := Rws.len h
  rw [List.length_map] at e h1
  exact ⟨a, cap, e, h1, h2⟩
theorem TextsW.at {w : World} {v : Value} {l : List (List Int)} (h : TextsW w v l) (k : Nat) (hk : k < l.length) : ∃ b off cap, v = .slice (some ⟨b, off, none⟩) l.length cap ∧ w.cell? ⟨b, off + k, none⟩ = some (.string (strOfNums (l.getD k []))) := by
  obtain ⟨b, off, cap, e, _, _, hc⟩ := Rws.at h k (by rw [List.length_map]; exact hk)
  rw [List.length_map] at e
  have hr : (l.map srow).getD k [] = [.string (strOfNums (l.getD k []))] := by simp [List.getD, hk, srow]
  rw [hr] at hc
  have c0 := hc 0 _ rfl
  rw [Nat.mul_one, Nat.add_zero] at c0
  exact ⟨b, off, cap, e, c0⟩
end Go.Proofs.YtnchjlimkgbfpaaGreatDoor

namespace Go.Proofs.YtnchjlimkgbfpaaGreatDoor
open Go.RowKit
set_option linter.unusedVariables false
set_option maxRecDepth 20000
theorem rank_at {A : Type} {p : A → Bool} {l : List A} {i : Nat} (hi : i < l.length) (h1 : ∀ j (hj : j < l.length), j < i → p l[j] = true) (h2 : p l[i] = false) : rankOf p l = i := by
  have e : l = l.take i ++ l[i] :: l.drop (i + 1) := by
    rw [List.getElem_cons_drop, List.take_append_drop]
  unfold rankOf
  rw [e, takeWhile_all]
  · rw [List.takeWhile_cons_of_neg (by rw [h2]; decide), List.append_nil, List.length_take]
    omega
  · intro x hx
    obtain ⟨j, hj, rfl⟩ := List.getElem_of_mem hx
    rw [List.length_take] at hj
    rw [List.getElem_take]
    exact h1 j (by omega) (by omega)
theorem rankN_at {l : List (List Int × Int)} (h : l.Pairwise fun a b => lessL a.1 b.1 = true) {i : Nat} (hi : i < l.length) : rankN l (l[i]).1 = i := by
  rw [List.pairwise_iff_getElem] at h
  exact rank_at hi (fun j hj hji => h j i hj hi hji) (lessL_self _)
theorem rankF_at {l : List (Int × List Int × Int)} (h : l.Pairwise fun a b => a.1 < b.1) {i : Nat} (hi : i < l.length) : rankF l (l[i]).1 = i := by
  rw [List.pairwise_iff_getElem] at h
  exact rank_at hi (fun j hj hji => by simpa using h j i hj hi hji) (by simp)
theorem named {s : St} (h : Good s) {i : Nat} (hi : i < s.names.length) : ∃ k, ∃ hk : k < s.files.length, (s.files[k]).1 = (s.names[i]).2 ∧ hasF s (s.names[i]).1 = true ∧ idxF s (s.names[i]).1 = k := by
  have hm := h.names.ids _ (List.getElem_mem hi)
  obtain ⟨f, hf, e⟩ := List.mem_map.1 hm
  obtain ⟨k, hk, rfl⟩ := List.getElem_of_mem hf
  have hr := rankN_at h.names.rise hi
  have hid : idN s (s.names[i]).1 = (s.names[i]).2 := by
    unfold idN
    rw [hr]
    simp [List.getD, hi]
  have hrk : rankF s.files (s.names[i]).2 = k := by
    rw [← e]
    exact rankF_at h.rise hk
  refine ⟨k, hk, e, ?_, ?_⟩
  · unfold hasF
    rw [hid]
    unfold thereN thereF
    rw [hr, hrk]
    simp [List.getD, hi, hk, e]
  · unfold idxF
    rw [hid, hrk]
theorem read_at {s : St} (h : Good s) {i k : Nat} (hi : i < s.names.length) (hk : k < s.files.length) (e : (s.files[k]).1 = (s.names[i]).2) : readP s (s.names[i]).1 = ((s.files[k]).2.1, 0) := by
  obtain ⟨j, hj, ej, hh, hx⟩ := named h hi
  have : j = k := by
    have h1 := rankF_at h.rise hj
    have h2 := rankF_at h.rise hk
    rw [ej] at h1
    rw [e] at h2
    omega
  subst this
  unfold readP
  rw [good_check h, hh]
  simp only [if_true]
  rw [hx]
  simp [fileD, List.getD, hj]
end Go.Proofs.YtnchjlimkgbfpaaGreatDoor

namespace Go.Proofs.YtnchjlimkgbfpaaGreatDoor
open Go.RowKit
set_option linter.unusedVariables false
set_option maxRecDepth 20000
theorem there_at {l : List (List Int × Int)} {t : List Int} (h : thereN l t = true) : ∃ hi : rankN l t < l.length, (l[rankN l t]).1 = t := by
  unfold thereN at h
  simp only [Bool.and_eq_true, decide_eq_true_eq] at h
  refine ⟨h.1, ?_⟩
  have := h.2
  simpa [List.getD, h.1] using this
theorem there_of {l : List (List Int × Int)} (hr : l.Pairwise fun a b => lessL a.1 b.1 = true) {p : List Int × Int} (hp : p ∈ l) : thereN l p.1 = true := by
  obtain ⟨i, hi, rfl⟩ := List.getElem_of_mem hp
  unfold thereN
  rw [rankN_at hr hi]
  simp [List.getD, hi]
theorem less_ne {a b : List Int} (h : lessL a b = true) : a ≠ b := by
  rintro rfl
  rw [lessL_self] at h
  cases h
theorem find_there {l : List (List Int × Int)} {t : List Int} (h : thereN l t = true) : findOf l t = (rankN l t : Int) := by
  obtain ⟨hi, e⟩ := there_at h
  unfold findOf
  refine placeOf_at _ l _ (l[rankN l t]) (List.getElem?_eq_getElem hi) (by simpa using e) ?_
  intro y hy
  have h1 : l.take (rankN l t) = l.takeWhile fun p => lessL p.1 t := rank_take _ l
  rw [h1] at hy
  have := less_ne (mem_tw (p := fun p : List Int × Int => lessL p.1 t) hy)
  simpa using this
theorem find_not {l : List (List Int × Int)} (hr : l.Pairwise fun a b => lessL a.1 b.1 = true) {t : List Int} (h : thereN l t = false) : findOf l t < 0 := by
  have h1 : ¬ 0 ≤ findOf l t := by
    intro q
    obtain ⟨x, hx, e⟩ := (place_iff _ l).1 q
    have e' : x.1 = t := by simpa using e
    have := there_of hr hx
    rw [e', h] at this
    cases this
  omega
theorem file_rank {s : St} (h : Good s) {i : Nat} (hi : i < s.names.length) : fileOf s.files (s.names[i]).2 = (rankF s.files (s.names[i]).2 : Int) := by
  obtain ⟨k, hk, e, _, _⟩ := named h hi
  have hr := rankF_at h.rise hk
  rw [e] at hr
  rw [hr]
  unfold fileOf
  refine placeOf_at _ s.files k (s.files[k]) (List.getElem?_eq_getElem hk) (by simpa using e) ?_
  intro y hy
  obtain ⟨j, hj, rfl⟩ := List.getElem_of_mem hy
  rw [List.length_take] at hj
  rw [List.getElem_take]
  have := (List.pairwise_iff_getElem.1 h.rise) j k (by omega) hk (by omega)
  rw [e] at this
  simp
  omega
end Go.Proofs.YtnchjlimkgbfpaaGreatDoor

namespace Go.Proofs.YtnchjlimkgbfpaaGreatDoor
open Go.RowKit
set_option linter.unusedVariables false
set_option maxRecDepth 20000
set_option linter.unusedSimpArgs false
theorem OwnF.snoc {w' w6 : World} {base : Nat} {vl : Option Addr} {n cl : Nat} {v6 : Value} {m : List FRow} {y : FRow} (h : OwnF w' base (.slice vl n cl) m) (hb : OwnB w' base y.1 y.2.2.1) (hok : okRow y) (hnew : ∀ z ∈ m, Apart z.1 y.1) (o : Obj) (o6 : OwnR w6 base 110 3 v6 (m.map frow ++ [frow y])) (g6 : (w'.alloc o).grownBy w6 (Value.ownBlock (.slice vl n cl))) : OwnF w6 base v6 (m ++ [y]) := by
  have u := up_al (Below.refl w'.heap.size w') o
  have hr := (h.up u).1
  refine ⟨by rw [List.map_append]; exact o6, ?_, ?_⟩
  · intro z hz
    rcases List.mem_append.1 hz with hz | hz
    · have := (h.up u).2.1 z hz
      exact ⟨this.1.far g6 (own_own_ne this.1 hr.2 (by decide)), this.2⟩
    · simp at hz
      subst hz
      exact ⟨(hb.up u).far g6 (own_own_ne (hb.up u) hr.2 (by decide)), hok⟩
  · rw [List.pairwise_append]
    refine ⟨h.2.2, by simp, ?_⟩
    intro a ha b hb'
    simp at hb'
    subst hb'
    exact hnew a ha
set_option maxHeartbeats 4000000 in
set_option maxRecDepth 20000 in
theorem some_any (l : List (Int × List Int × Int)) (v : Value) (w : World) (hv : FilesW w v l) (hl : l.length * 40 ≤ 140737488351232) :
    Calls Tryz.prog 29 #[v] w fun e w' => ∃ v', e = .returned v' ∧ ∃ m : List FRow, m.map (·.2) = l ∧ OwnF w' w.heap.size v' m ∧ Below w.heap.size w w' := by
  have HV : Hid (FilesW w v l) := hv
  obtain ⟨an, cn, en, _, _⟩ := hv.len
  subst en
  clear hv
  go_enter Tryz.func29, Tryz.ntmps29
  go_wp2_with fail
  go_loopw [3, 4] (fun vb i wr => ∃ (k : Nat) (m : List FRow) (vl : Option Addr) (cl : Nat), k ≤ l.length ∧ i = .int .i64 k ∧ vb = .slice vl k cl ∧ Hid (m.length = k ∧ m.map (·.2) = l.take k) ∧ Hid (OwnF wr w.heap.size (.slice vl k cl) m) ∧ Hid (Below w.heap.size w wr)) (fun _ i _ => l.length - (intOf i).toNat)
  case atStart => exact ⟨0, [], none, 0, Nat.zero_le _, rfl, rfl, ⟨rfl, rfl⟩, ⟨OwnR.nil _ _ _ _, (fun y hy => by cases hy), List.Pairwise.nil⟩, Below.refl _ _⟩
  case round =>
    obtain ⟨k, m, vl, cl, hk, rfl, rfl, HM, HO, up⟩ := hrel
    by_cases hlt : k < l.length
    · have hlt' : (k : Int) < (l.length : Int) := by omega
      obtain ⟨b, off, cap', u, e, _, _, c0, c1, c2, ho, hln, hi1, hi2⟩ := (HV.out.up up.out).at k hlt
      simp at e
      obtain ⟨rfl, rfl⟩ := e
      have HT : Hid (l.take (k + 1) = l.take k ++ [l.getD k (0, [], 0)]) := take_snoc l k _ hlt
      generalize l.getD k (0, [], 0) = y at *
      obtain ⟨yi, yd, ys⟩ := y
      simp only at c0 c1 c2 ho hln hi1 hi2
      obtain ⟨ad, cd, eu, _⟩ := ho.slice
      subst eu
      obtain ⟨dn, hdn⟩ : ∃ dn, dn = yd.length := ⟨_, rfl⟩
      rw [← hdn] at c1
      have HK : Hid (k < l.length) := hlt
      have HBl : Hid (b < w.heap.size) := by
        obtain ⟨b', off', cap2, u', e', _, _, z0, _⟩ := HV.out.at k hlt
        simp at e'
        obtain ⟨⟨rfl, rfl⟩, _⟩ := e'
        exact World.block_lt_of_cell? w _ z0
      have HG : Hid (∀ (w' w6 : World) (o : Obj), OwnF w' w.heap.size (.slice vl k cl) m → (w'.alloc o).grownBy w6 (Value.ownBlock (.slice vl k cl)) → ∀ o2 x, w'.cell? ⟨b, o2, none⟩ = some x → w6.cell? ⟨b, o2, none⟩ = some x) := by
        intro w' w6 o hF hg o2 x hc
        refine hg.cell (Lib.cell?_alloc_marked o hc) ?_
        intro q
        have := (hF.1.2.lt b q.symm).1
        have := HBl.out
        omega
      have HC : Hid (∀ X, Below wr.heap.size wr X → Calls Tryz.prog 69 #[.slice ad dn cd] X fun e w' => ∃ a2 c2, e = .returned (.slice a2 dn c2) ∧ w'.cell? ⟨b, off + k * 3, none⟩ = some (.int .i64 yi) ∧ w'.cell? ⟨b, off + k * 3 + 1, none⟩ = some (.slice ad dn cd) ∧ w'.cell? ⟨b, off + k * 3 + 2, none⟩ = some (.int .i64 ys) ∧
          Hid (OwnF w' w.heap.size (.slice vl k cl) m ∧ OwnB w' wr.heap.size (.slice a2 dn c2) yd ∧ Below wr.heap.size wr w')) := by
        intro X hX
        have hoX := ho.up hX
        rw [← hdn] at hoX
        refine (copyB_any yd _ X hoX hln).mono ?_
        rintro e w' ⟨v', rfl, ob, hu⟩
        obtain ⟨a2, cc, ev, _⟩ := (Octs.own ob ho.1).slice
        rw [← hdn] at ev
        subst ev
        have uu := up_trans hX hu
        exact ⟨a2, cc, rfl, (uu.cell (World.block_lt_of_cell? wr _ c0)).trans c0, (uu.cell (World.block_lt_of_cell? wr _ c1)).trans c1, (uu.cell (World.block_lt_of_cell? wr _ c2)).trans c2, HO.out.up uu, ob.mono hX.size, uu⟩
      have HY : Hid (okRow (.slice none 0 0, yi, yd, ys)) := ⟨ho.1, hln, hi1, hi2⟩
      have hsz2 : Hid (w.heap.size ≤ wr.heap.size) := up.out.size
      have HL : Hid (l.length * 40 ≤ 140737488351232) := hl
      have HA1 : Hid (∀ (w' : World) (o : Obj), OwnF w' w.heap.size (.slice vl k cl) m → OwnR (w'.alloc o) w.heap.size 110 3 (.slice vl k cl) (m.map frow)) := fun w' o h => (h.up (up_al (Below.refl _ _) o)).1
      have HA2 : Hid (∀ (w' : World) a2 cc, Rws 3 (w'.alloc (.cells #[.int .i64 yi, .slice a2 dn cc, .int .i64 ys] 110)) (.slice (some ⟨w'.heap.size, 0, none⟩) 1 1) [[.int .i64 yi, .slice a2 dn cc, .int .i64 ys]]) := by
        intro w' a2 cc
        have := Rws.made (sz := 3) w' 110 [[.int .i64 yi, .slice a2 dn cc, .int .i64 ys]] (by intro cs hcs; simp at hcs; subst hcs; rfl) (by simp [maxLen])
        simpa using this
      have HA3 : Hid (∀ a2 cc, ∀ cs ∈ [[Value.int .i64 yi, .slice a2 dn cc, .int .i64 ys]], ∀ u ∈ cs, u.oneCell' = true) := by
        intro a2 cc cs hcs u hu
        simp at hcs
        subst hcs
        simp at hu
        rcases hu with rfl | rfl | rfl <;> rfl
      have HA4 : Hid ((((m.map frow).length + 1) + ((m.map frow).length + 1) / 4 + 192) * 40 ≤ 281474976710656 ∧ (m.map frow).length + 1 ≤ maxLen) := by
        rw [List.length_map, HM.out.1]
        have h1 := HL.out
        have h2 := HK.out
        unfold maxLen
        constructor <;> omega
      have HA5 : Hid (∀ (w' : World) (o : Obj), Below wr.heap.size wr w' → w.heap.size ≤ (w'.alloc o).heap.size) := by
        intro w' o h
        have h1 := h.size
        have h2 := hsz2.out
        simp
        omega
      clear ho hln hi1 hi2 hdn hl
      go_upto_region 5 with fail
      go_region_held3 (fun w' => w'.cell? ⟨b, off + k * 3, none⟩ = some (.int .i64 yi) ∧ w'.cell? ⟨b, off + k * 3 + 1, none⟩ = some (.slice ad dn cd) ∧ w'.cell? ⟨b, off + k * 3 + 2, none⟩ = some (.int .i64 ys)) (first | exact ⟨y0, y1, y2⟩ | exact ⟨Lib.cell?_alloc_marked _ y0, Lib.cell?_alloc_marked _ y1, Lib.cell?_alloc_marked _ y2⟩ | exact ⟨t0, t1, t2⟩ | (simp [go_sem, c0, c1, c2]; done)) (first | (go_at_call 69; refine (HC.out _ (by repeat (first | exact Below.refl _ _ | apply up_dr | apply up_al))).mono ?_; rintro e w' ⟨a2, cc, rfl, y0, y1, y2, hs⟩) | (refine step_append_rows _ rfl (.tmp 11) (.tmp 29) 32 110 (.agg #[.int .i64 0, .slice none 0 0, .int .i64 0]) 3 40 rfl Tryz.underlying32 Tryz.info110 rfl (by decide) w.heap.size (.slice vl k cl) (m.map frow) rfl (HA1.out _ _ hs.out.1) _ [[.int .i64 yi, .slice a2 dn cc, .int .i64 ys]] rfl (HA2.out _ _ _) (HA3.out _ _) HA4.out.1 HA4.out.2 (HA5.out _ _ hs.out.2.2) ?_; intro v6 w6 o6 g6; have t0 := HG.out _ _ _ hs.out.1 g6 _ _ y0; have t1 := HG.out _ _ _ hs.out.1 g6 _ _ y1; have t2 := HG.out _ _ _ hs.out.1 g6 _ _ y2))
      all_goals
        obtain ⟨vl', cl', ev6, _, _⟩ := (Rws.own o6).len
        have hl6 : (m.map frow ++ [[Value.int .i64 yi, .slice a2 dn cc, .int .i64 ys]]).length = k + 1 := by
          rw [List.length_append, List.length_map, HM.out.1]
          rfl
        rw [hl6] at ev6
        subst ev6
        have HF6 : Hid (OwnF w6 w.heap.size (.slice vl' (k + 1) cl') (m ++ [(.slice a2 dn cc, yi, yd, ys)])) := hs.out.1.snoc (y := (.slice a2 dn cc, yi, yd, ys)) (hs.out.2.1.mono hsz2.out) HY.out (fun z hz => apart_new (HO.out.2.1 z hz).1 hs.out.2.1) _ o6 g6
        have HM6 : Hid ((m ++ [((.slice a2 dn cc, yi, yd, ys) : FRow)]).length = k + 1 ∧ (m ++ [((.slice a2 dn cc, yi, yd, ys) : FRow)]).map (·.2) = l.take (k + 1)) := by
          refine ⟨by rw [List.length_append, HM.out.1]; rfl, ?_⟩
          rw [HT.out, List.map_append, HM.out.2]
          rfl
        have HU6 : Hid (Below w.heap.size w w6) := by
          have uu := up_al (up_trans up.out hs.out.2.2) (.cells #[.int .i64 yi, .slice a2 dn cc, .int .i64 ys] 110)
          exact uu.grown g6 uu.size (fun j hj => (hs.out.1.1.2.lt j hj).1)
        have HN6 : Hid (k + 1 ≤ l.length) := HK.out
        have hk62 : (k : Int) ≤ 140737488351232 := by
          have h1 := HL.out
          have h2 := HK.out
          omega
        clear o6 g6 hl6 t0 t1 t2
        go_wp2_with fail
        exact ⟨⟨k + 1, _, vl', cl', HN6.out, by go_num, rfl, HM6, HF6, HU6⟩, by have := HN6.out; simp [intOf]; omega⟩
    · have hlt' : ¬ (k : Int) < (l.length : Int) := by omega
      obtain rfl : k = l.length := by omega
      rw [List.take_length] at HM
      go_wp2_with fail
      go_ret
      exact ⟨_, rfl, m, HM.out.2, HO.out, up.out⟩
end Go.Proofs.YtnchjlimkgbfpaaGreatDoor

namespace Go.Proofs.YtnchjlimkgbfpaaGreatDoor
open Go.RowKit
set_option linter.unusedVariables false
set_option maxRecDepth 20000
set_option linter.unusedSimpArgs false
set_option maxHeartbeats 8000000 in
set_option maxRecDepth 20000 in
theorem of_any (s : St) (v : Value) (w : World) (hv : StW w v s) (h1 : s.files.length * 40 ≤ 140737488351232) (h2 : s.names.length * 24 ≤ 140737488351232) (h3 : s.safe.length * 24 ≤ 140737488351232) :
    Calls Tryz.prog 7 #[v] w fun e w' => ∃ v', e = .returned v' ∧ OwnV w' w.heap.size v' s ∧ Below w.heap.size w w' := by
  obtain ⟨af, nf, cf, an, nn, cn, as', ns, cs', ev⟩ := hv.shape
  subst ev
  obtain ⟨vf, vn, vs, ev, hf, hn, hs, hi1, hi2⟩ := hv
  simp at ev
  obtain ⟨rfl, rfl, rfl⟩ := ev
  obtain ⟨wx, hwx⟩ : ∃ wx, wx = (w.alloc (.cells #[.int .i64 s.cap, .slice af nf cf, .slice an nn cn, .slice as' ns cs', .int .i64 s.next] 25)).alloc (.cells #[.int .i64 0, .slice none 0 0, .slice none 0 0, .slice none 0 0, .int .i64 0] 35) := ⟨_, rfl⟩
  have HX : Hid ((w.alloc (.cells #[.int .i64 s.cap, .slice af nf cf, .slice an nn cn, .slice as' ns cs', .int .i64 s.next] 25)).alloc (.cells #[.int .i64 0, .slice none 0 0, .slice none 0 0, .slice none 0 0, .int .i64 0] 35) = wx) := hwx.symm
  have b0 : wx.heap[w.heap.size]? = some (.cells #[.int .i64 s.cap, .slice af nf cf, .slice an nn cn, .slice as' ns cs', .int .i64 s.next] 25) := by rw [hwx]; exact blk_two0 w _ _
  have b1 : wx.heap[w.heap.size + 1]? = some (.cells #[.int .i64 0, .slice none 0 0, .slice none 0 0, .slice none 0 0, .int .i64 0] 35) := by rw [hwx]; exact blk_two1 w _ _
  have up : Hid (Below w.heap.size w wx) := by rw [hwx]; exact up_al (up_al (Below.refl _ _) _) _
  have HB : Hid (wx.heap[w.heap.size]? = some (.cells #[.int .i64 s.cap, .slice af nf cf, .slice an nn cn, .slice as' ns cs', .int .i64 s.next] 25) ∧ wx.heap[w.heap.size + 1]? = some (.cells #[.int .i64 0, .slice none 0 0, .slice none 0 0, .slice none 0 0, .int .i64 0] 35)) := ⟨b0, b1⟩
  have HI : Hid (In64 s.cap ∧ In64 s.next) := ⟨hi1, hi2⟩
  have HF : Hid (∀ X, Below wx.heap.size wx X → Calls Tryz.prog 29 #[.slice af nf cf] X fun e w' => ∃ a1 n1 c1, e = .returned (.slice a1 n1 c1) ∧ w'.cell? ⟨w.heap.size, 0, none⟩ = some (.int .i64 s.cap) ∧ w'.cell? ⟨w.heap.size, 1, none⟩ = some (.slice af nf cf) ∧ w'.cell? ⟨w.heap.size, 2, none⟩ = some (.slice an nn cn) ∧ w'.cell? ⟨w.heap.size, 3, none⟩ = some (.slice as' ns cs') ∧ w'.cell? ⟨w.heap.size, 4, none⟩ = some (.int .i64 s.next) ∧ w'.cell? ⟨w.heap.size + 1, 0, none⟩ = some (.int .i64 0) ∧ w'.cell? ⟨w.heap.size + 1, 1, none⟩ = some (.slice none 0 0) ∧ w'.cell? ⟨w.heap.size + 1, 2, none⟩ = some (.slice none 0 0) ∧ w'.cell? ⟨w.heap.size + 1, 3, none⟩ = some (.slice none 0 0) ∧ w'.cell? ⟨w.heap.size + 1, 4, none⟩ = some (.int .i64 0) ∧ w'.frozen? ⟨w.heap.size + 1, 0, none⟩ = false ∧ w'.frozen? ⟨w.heap.size + 1, 1, none⟩ = false ∧ w'.frozen? ⟨w.heap.size + 1, 2, none⟩ = false ∧ w'.frozen? ⟨w.heap.size + 1, 3, none⟩ = false ∧ w'.frozen? ⟨w.heap.size + 1, 4, none⟩ = false ∧ Hid ((∃ m : List FRow, m.map (·.2) = s.files ∧ OwnF w' X.heap.size (.slice a1 n1 c1) m) ∧ wx.heap.size ≤ X.heap.size) ∧ Hid (Below X.heap.size X w') ∧ Hid (Below wx.heap.size wx w')) := by
    intro X hX
    refine (some_any s.files _ X (hf.up (up_trans up.out hX)) h1).mono ?_
    rintro e w' ⟨v', rfl, m, hm, of, hu⟩
    obtain ⟨a1, c1, e1, _, _⟩ := (FilesW.own of).len
    subst e1
    have k0 := blk_up HB.out.1 (up_trans hX hu)
    have k1 := blk_up HB.out.2 (up_trans hX hu)
    exact ⟨a1, _, c1, rfl, blk_cell k0 0 _ rfl, blk_cell k0 1 _ rfl, blk_cell k0 2 _ rfl, blk_cell k0 3 _ rfl, blk_cell k0 4 _ rfl, blk_cell k1 0 _ rfl, blk_cell k1 1 _ rfl, blk_cell k1 2 _ rfl, blk_cell k1 3 _ rfl, blk_cell k1 4 _ rfl, blk_frozen k1 0, blk_frozen k1 1, blk_frozen k1 2, blk_frozen k1 3, blk_frozen k1 4, ⟨⟨m, hm, of⟩, hX.size⟩, hu, up_trans hX hu⟩
  have HNm : Hid (∀ X, Below wx.heap.size wx X → Calls Tryz.prog 30 #[.slice an nn cn] X fun e w' => ∃ a2 n2 c2, e = .returned (.slice a2 n2 c2) ∧ w'.cell? ⟨w.heap.size, 0, none⟩ = some (.int .i64 s.cap) ∧ w'.cell? ⟨w.heap.size, 1, none⟩ = some (.slice af nf cf) ∧ w'.cell? ⟨w.heap.size, 2, none⟩ = some (.slice an nn cn) ∧ w'.cell? ⟨w.heap.size, 3, none⟩ = some (.slice as' ns cs') ∧ w'.cell? ⟨w.heap.size, 4, none⟩ = some (.int .i64 s.next) ∧ w'.cell? ⟨w.heap.size + 1, 0, none⟩ = some (.int .i64 0) ∧ w'.cell? ⟨w.heap.size + 1, 1, none⟩ = some (.slice none 0 0) ∧ w'.cell? ⟨w.heap.size + 1, 2, none⟩ = some (.slice none 0 0) ∧ w'.cell? ⟨w.heap.size + 1, 3, none⟩ = some (.slice none 0 0) ∧ w'.cell? ⟨w.heap.size + 1, 4, none⟩ = some (.int .i64 0) ∧ w'.frozen? ⟨w.heap.size + 1, 0, none⟩ = false ∧ w'.frozen? ⟨w.heap.size + 1, 1, none⟩ = false ∧ w'.frozen? ⟨w.heap.size + 1, 2, none⟩ = false ∧ w'.frozen? ⟨w.heap.size + 1, 3, none⟩ = false ∧ w'.frozen? ⟨w.heap.size + 1, 4, none⟩ = false ∧ Hid (OwnN w' X.heap.size 146 (.slice a2 n2 c2) s.names ∧ wx.heap.size ≤ X.heap.size) ∧ Hid (Below X.heap.size X w') ∧ Hid (Below wx.heap.size wx w')) := by
    intro X hX
    refine (names_any s.names _ X (hn.up (up_trans up.out hX)) h2).mono ?_
    rintro e w' ⟨v', rfl, on, hu⟩
    obtain ⟨a1, c1, e1, _, _⟩ := (NamesW.own on).len
    subst e1
    have k0 := blk_up HB.out.1 (up_trans hX hu)
    have k1 := blk_up HB.out.2 (up_trans hX hu)
    exact ⟨a1, _, c1, rfl, blk_cell k0 0 _ rfl, blk_cell k0 1 _ rfl, blk_cell k0 2 _ rfl, blk_cell k0 3 _ rfl, blk_cell k0 4 _ rfl, blk_cell k1 0 _ rfl, blk_cell k1 1 _ rfl, blk_cell k1 2 _ rfl, blk_cell k1 3 _ rfl, blk_cell k1 4 _ rfl, blk_frozen k1 0, blk_frozen k1 1, blk_frozen k1 2, blk_frozen k1 3, blk_frozen k1 4, ⟨on, hX.size⟩, hu, up_trans hX hu⟩
  have HSf : Hid (∀ X, Below wx.heap.size wx X → Calls Tryz.prog 30 #[.slice as' ns cs'] X fun e w' => ∃ a3 n3 c3, e = .returned (.slice a3 n3 c3) ∧ w'.cell? ⟨w.heap.size, 0, none⟩ = some (.int .i64 s.cap) ∧ w'.cell? ⟨w.heap.size, 1, none⟩ = some (.slice af nf cf) ∧ w'.cell? ⟨w.heap.size, 2, none⟩ = some (.slice an nn cn) ∧ w'.cell? ⟨w.heap.size, 3, none⟩ = some (.slice as' ns cs') ∧ w'.cell? ⟨w.heap.size, 4, none⟩ = some (.int .i64 s.next) ∧ w'.cell? ⟨w.heap.size + 1, 0, none⟩ = some (.int .i64 0) ∧ w'.cell? ⟨w.heap.size + 1, 1, none⟩ = some (.slice none 0 0) ∧ w'.cell? ⟨w.heap.size + 1, 2, none⟩ = some (.slice none 0 0) ∧ w'.cell? ⟨w.heap.size + 1, 3, none⟩ = some (.slice none 0 0) ∧ w'.cell? ⟨w.heap.size + 1, 4, none⟩ = some (.int .i64 0) ∧ w'.frozen? ⟨w.heap.size + 1, 0, none⟩ = false ∧ w'.frozen? ⟨w.heap.size + 1, 1, none⟩ = false ∧ w'.frozen? ⟨w.heap.size + 1, 2, none⟩ = false ∧ w'.frozen? ⟨w.heap.size + 1, 3, none⟩ = false ∧ w'.frozen? ⟨w.heap.size + 1, 4, none⟩ = false ∧ Hid (OwnN w' X.heap.size 146 (.slice a3 n3 c3) s.safe ∧ wx.heap.size ≤ X.heap.size) ∧ Hid (Below X.heap.size X w') ∧ Hid (Below wx.heap.size wx w')) := by
    intro X hX
    refine (names_any s.safe _ X (hs.up (up_trans up.out hX)) h3).mono ?_
    rintro e w' ⟨v', rfl, on, hu⟩
    obtain ⟨a1, c1, e1, _, _⟩ := (NamesW.own on).len
    subst e1
    have k0 := blk_up HB.out.1 (up_trans hX hu)
    have k1 := blk_up HB.out.2 (up_trans hX hu)
    exact ⟨a1, _, c1, rfl, blk_cell k0 0 _ rfl, blk_cell k0 1 _ rfl, blk_cell k0 2 _ rfl, blk_cell k0 3 _ rfl, blk_cell k0 4 _ rfl, blk_cell k1 0 _ rfl, blk_cell k1 1 _ rfl, blk_cell k1 2 _ rfl, blk_cell k1 3 _ rfl, blk_cell k1 4 _ rfl, blk_frozen k1 0, blk_frozen k1 1, blk_frozen k1 2, blk_frozen k1 3, blk_frozen k1 4, ⟨on, hX.size⟩, hu, up_trans hX hu⟩
  have U0 : Hid (Below wx.heap.size wx wx.drew) := up_dr (Below.refl _ _)
  clear hwx hf hn hs hi1 hi2 h1 h2 h3
  go_enter Tryz.func7, Tryz.ntmps7
  go_upto_region 1 with fail
  rw [HX.out]
  clear HX
  have q0 := blk_cell b0 0 _ rfl
  have q1 := blk_cell b0 1 _ rfl
  have q2 := blk_cell b0 2 _ rfl
  have q3 := blk_cell b0 3 _ rfl
  have q4 := blk_cell b0 4 _ rfl
  have p0 := blk_cell b1 0 _ rfl
  have p1 := blk_cell b1 1 _ rfl
  have p2 := blk_cell b1 2 _ rfl
  have p3 := blk_cell b1 3 _ rfl
  have p4 := blk_cell b1 4 _ rfl
  clear b0 b1
  go_region_held3 (fun w' => w'.cell? ⟨w.heap.size, 0, none⟩ = some (.int .i64 s.cap) ∧ w'.cell? ⟨w.heap.size, 1, none⟩ = some (.slice af nf cf) ∧ w'.cell? ⟨w.heap.size, 2, none⟩ = some (.slice an nn cn) ∧ w'.cell? ⟨w.heap.size, 3, none⟩ = some (.slice as' ns cs') ∧ w'.cell? ⟨w.heap.size, 4, none⟩ = some (.int .i64 s.next)) (first | with_reducible exact ⟨y0, y1, y2, y3, y4⟩ | with_reducible exact ⟨q0, q1, q2, q3, q4⟩ | (simp [go_sem, y0, y1, y2, y3, y4]; done) | (simp [go_sem, q0, q1, q2, q3, q4]; done)) (first | (go_at_call 29; with_reducible refine (HF.out _ (by first | exact ub.out | exact U0.out)).mono ?_; rintro e w' ⟨a1, n1, c1, rfl, y0, y1, y2, y3, y4, x0, x1, x2, x3, x4, f0, f1, f2, f3, f4, of, uf, ub⟩) | (go_at_call 30; with_reducible refine (HNm.out _ (by first | exact ub.out | exact U0.out)).mono ?_; rintro e w' ⟨a2, n2, c2, rfl, y0, y1, y2, y3, y4, x0, x1, x2, x3, x4, f0, f1, f2, f3, f4, on, un, ub⟩) | (go_at_call 30; with_reducible refine (HSf.out _ (by first | exact ub.out | exact U0.out)).mono ?_; rintro e w' ⟨a3, n3, c3, rfl, y0, y1, y2, y3, y4, x0, x1, x2, x3, x4, f0, f1, f2, f3, f4, os, us, ub⟩))
  all_goals
    have HP : Hid (OwnV w' w.heap.size (.agg #[.int .i64 s.cap, .slice a1 n1 c1, .slice a2 n2 c2, .slice a3 n3 c3, .int .i64 s.next]) s) := by
      obtain ⟨⟨m, hm, hf⟩, hsz⟩ := of.out
      have kf := (hf.mono hsz).mono up.out.size
      have kn := (on.out.1.mono on.out.2).mono up.out.size
      have ks := (os.out.1.mono os.out.2).mono up.out.size
      have af' : OwnF w' w.heap.size (.slice a1 n1 c1) m := by first | exact kf | exact kf.up un.out | exact kf.up us.out | exact kf.up (up_trans un.out us.out) | exact kf.up (up_trans us.out un.out)
      have an' : OwnN w' w.heap.size 146 (.slice a2 n2 c2) s.names := by first | exact kn | exact kn.up uf.out | exact kn.up us.out | exact kn.up (up_trans uf.out us.out) | exact kn.up (up_trans us.out uf.out)
      have as'' : OwnN w' w.heap.size 146 (.slice a3 n3 c3) s.safe := by first | exact ks | exact ks.up uf.out | exact ks.up un.out | exact ks.up (up_trans uf.out un.out) | exact ks.up (up_trans un.out uf.out)
      have ap : Apart (.slice a2 n2 c2) (.slice a3 n3 c3) := by
        first | exact apart_new on.out.1.2.2 os.out.1.2.2 | exact apart_new on.out.1.2.2 (os.out.1.mono uf.out.size).2.2 | exact (apart_new os.out.1.2.2 on.out.1.2.2).symm | exact (apart_new os.out.1.2.2 (on.out.1.mono uf.out.size).2.2).symm
      exact ⟨_, _, _, m, rfl, hm, af', an', as'', ap, HI.out.1, HI.out.2⟩
    have hb1 := blk_up HB.out.2 ub.out
    have HQ : Hid ((HP.out.put hb1).2 = (HP.out.put hb1).2) := rfl
    have HV5 : Hid (OwnV (set5 w' (w.heap.size + 1) (.int .i64 s.cap) (.slice a1 n1 c1) (.slice a2 n2 c2) (.slice a3 n3 c3) (.int .i64 s.next)) w.heap.size (.agg #[.int .i64 s.cap, .slice a1 n1 c1, .slice a2 n2 c2, .slice a3 n3 c3, .int .i64 s.next]) s) := (HP.out.put hb1).2
    have b5 := set5_blk hb1 (.int .i64 s.cap) (.slice a1 n1 c1) (.slice a2 n2 c2) (.slice a3 n3 c3) (.int .i64 s.next)
    have HU : Hid (Below w.heap.size w w') := up_trans up.out ub.out
    clear HQ
    go_wp2_with fail
    refine bodyPost_ret (results_state rfl _ _ rfl b5) rfl ?_
    refine ⟨_, rfl, HV5.out, ?_⟩
    exact HU.out.grown (set5_grown _ _ _ _ _ _ _) HU.out.size (fun j hj => by injection hj with hj; rw [← hj]; omega)
end Go.Proofs.YtnchjlimkgbfpaaGreatDoor

namespace Go.Proofs.YtnchjlimkgbfpaaGreatDoor
open Go.RowKit
set_option linter.unusedVariables false
set_option maxRecDepth 20000
set_option linter.unusedSimpArgs false
theorem same_anyG (l m : List Int) (v u : Value) (w : World) (hv : Octs w v l) (hu : Octs w u m) : Calls Tryz.prog 46 #[v, u] w fun e w' => e = .returned (.bool (decide (l = m))) ∧ w' = w := by
  have k1 := run_convert_octs l v w hv
  have k2 := run_convert_octs m u w hu
  have HE : Hid (((strOfNums l).toList == (strOfNums m).toList) = decide (l = m)) := str_eq l m hv.1 hu.1
  go_enter Tryz.func46, Tryz.ntmps46
  go_wp2_with fail
  go_ret
  refine ⟨?_, rfl⟩
  rw [← HE.out]
  rfl
end Go.Proofs.YtnchjlimkgbfpaaGreatDoor
