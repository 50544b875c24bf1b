/- What a run and a crash keep, said plainly; the document's Own, swept and parts of its Do. -/
import Derived.Test.YtoceddpjkodfkaaM4
import Derived.Test.YtoceddpjkodfkaaR7
import Derived.Test.YtoceddpjkodfkaaT1
import Derived.Deep.QuietTactic
import Derived.BigQuiet
import Derived.Test.YtoceddpjkodfkaaT3
import Derived.Test.YtoceddpjkodfkaaS2
import Derived.Deep.RegionHeld3
import Derived.Test.YtoceddpjkodfkaaU3

/- What a run and crashes keep, said plainly. -/
namespace Go.Proofs.Ytoceddpjkodfkaa
open Go.RowKit
set_option linter.unusedVariables false

theorem go_good : ∀ (l : List Ac) {s : St}, Good s → Good (goP s l).1 ∧ 0 ≤ (goP s l).2.1 ∧ (goP s l).2.1 ≤ (l.length : Int)
  | [], s, h => ⟨h, by simp [goP], by simp [goP]⟩
  | a :: l, s, h => by
    have hg := act_good h a
    unfold goP
    by_cases c : (actP s a).2 = 0
    · rw [if_pos c]
      have ih := go_good l hg
      refine ⟨ih.1, ?_, ?_⟩
      · show 0 ≤ (goP (actP s a).1 l).2.1 + 1
        omega
      · show (goP (actP s a).1 l).2.1 + 1 ≤ ((a :: l).length : Int)
        simp only [List.length_cons]
        omega
    · rw [if_neg c]
      exact ⟨hg, by simp, by simp only [List.length_cons]; omega⟩

theorem run_good {s : St} (h : Good s) (l : List Ac) : Good (runP s l).1 ∧ 0 ≤ (runP s l).2.1 ∧ (runP s l).2.1 ≤ (l.length : Int) := by
  unfold runP
  rw [good_check h]
  exact go_good l h

theorem run_bad {s : St} (h : checkP s = false) (l : List Ac) : runP s l = (z0, 0, 9) := by
  unfold runP
  rw [h]
  rfl

theorem crash_ok {s : St} (h : Good s) (keep : List Int) : (crashP s keep).2 = 0 := by
  unfold crashP
  rw [good_check h]
  rfl

theorem cutTo_ids (keep : List Int) (l : List (Int × List Int × Int)) : (cutTo keep l l.length).map (·.1) = l.map (·.1) := by
  apply List.ext_getElem
  · simp [cutTo_len]
  · intro i h1 h2
    have hi : i < l.length := by simpa using h2
    have hc : i < (cutTo keep l l.length).length := by simpa using h1
    have e := cutTo_at keep l l.length i hi
    rw [if_pos hi] at e
    have e' : (cutTo keep l l.length)[i] = cutF l[i] (keep.getD i 0) := by simpa [List.getD, hc, hi] using e
    rw [List.getElem_map, List.getElem_map, e']
    rfl

theorem crash_names {s : St} (h : Good s) (keep : List Int) : (crashP s keep).1.names = s.safe ∧ (crashP s keep).1.safe = s.safe := by
  unfold crashP
  rw [good_check h]
  exact ⟨rfl, rfl⟩

theorem crash_again {s : St} (h : Good s) (keep keep2 : List Int) : (crashP (crashP s keep).1 keep2).1.names = (crashP s keep).1.names ∧ (crashP (crashP s keep).1 keep2).1.files.length = (crashP s keep).1.files.length := by
  have hu := crash_good h keep
  have hn := crash_names h keep
  generalize (crashP s keep).1 = u at *
  have hc := crash_names hu keep2
  refine ⟨by rw [hc.1, hn.1, hn.2], ?_⟩
  have hall := hu.all
  unfold crashP
  rw [good_check hu]
  simp only [if_true]
  unfold sweptOf
  simp only
  rw [List.filter_eq_self.2 ?_]
  · exact cutTo_len _ _ _
  · intro f hf
    have hm : f.1 ∈ u.files.map (·.1) := by
      rw [← cutTo_ids keep2 u.files]
      exact List.mem_map.2 ⟨f, hf, rfl⟩
    obtain ⟨g, hg, e⟩ := List.mem_map.1 hm
    have := hall g hg
    rw [e, hn.1, hn.2] at this
    rw [hn.2]
    have hs := (stands_iff s.safe f.1).2 (by simpa using this)
    simp [hs]

theorem box_cells {w : World} {B : Nat} {a b c d e : Value} {t : TypeId} (h : w.heap[B]? = some (.cells #[a, b, c, d, e] t)) :
    w.cell? ⟨B, 0, none⟩ = some a ∧ w.cell? ⟨B, 1, none⟩ = some b ∧ w.cell? ⟨B, 2, none⟩ = some c ∧ w.cell? ⟨B, 3, none⟩ = some d ∧ w.cell? ⟨B, 4, none⟩ = some e :=
  ⟨blk_cell h 0 _ rfl, blk_cell h 1 _ rfl, blk_cell h 2 _ rfl, blk_cell h 3 _ rfl, blk_cell h 4 _ rfl⟩

theorem StW.form {w : World} {v : Value} {s : St} (h : StW w v s) : ∃ af cf an cn as' cs', v = .agg #[.int .i64 s.cap, .slice af s.files.length cf, .slice an s.names.length cn, .slice as' s.safe.length cs', .int .i64 s.next] := by
  obtain ⟨vf, vn, vs, rfl, hf, hn, hs, _, _⟩ := h
  obtain ⟨af, cf, rfl, _, _⟩ := hf.len
  obtain ⟨an, cn, rfl, _, _⟩ := hn.len
  obtain ⟨as', cs', rfl, _, _⟩ := hs.len
  exact ⟨_, _, _, _, _, _, rfl⟩

theorem good_few {s : St} (h : Good s) : s.names.length + s.safe.length ≤ 9223372036854775807 := by
  have h1 : s.names.length ≤ s.files.length := by
    have := nodup_le (s.names.map (·.2)) (s.files.map (·.1)) h.names.once (by
      intro x hx
      obtain ⟨p, hp, rfl⟩ := List.mem_map.1 hx
      exact h.names.ids p hp)
    simpa using this
  have h2 : s.safe.length ≤ s.files.length := by
    have := nodup_le (s.safe.map (·.2)) (s.files.map (·.1)) h.safe.once (by
      intro x hx
      obtain ⟨p, hp, rfl⟩ := List.mem_map.1 hx
      exact h.safe.ids p hp)
    simpa using this
  have := h.few
  omega
end Go.Proofs.Ytoceddpjkodfkaa

/- The law's own comparisons, where both are the same. -/
namespace Go.Proofs.Ytoceddpjkodfkaa
open Go.RowKit
set_option linter.unusedVariables false
set_option linter.unusedSimpArgs false

/-- Texts as they are read. -/
def TextsW (w : World) (v : Value) (l : List (List Int)) : Prop := Rws 1 w v (l.map srow)
theorem TextsW.up {w w' : World} {v : Value} {l : List (List Int)} (h : TextsW w v l) (hb : Below w.heap.size w w') : TextsW w' v l := Rws.up h hb
theorem TextsW.len {w : World} {v : Value} {l : List (List Int)} (h : TextsW w v l) : ∃ a cap, v = .slice a l.length cap ∧ l.length ≤ cap ∧ cap ≤ maxLen := by
  obtain ⟨a, cap, e, h1, h2⟩ := Rws.len h
  rw [List.length_map] at e h1
  exact ⟨a, cap, e, h1, h2⟩
theorem TextsW.at {w : World} {v : Value} {l : List (List Int)} (h : TextsW w v l) (k : Nat) (hk : k < l.length) : ∃ b off cap, v = .slice (some ⟨b, off, none⟩) l.length cap ∧ w.cell? ⟨b, off + k, none⟩ = some (.string (strOfNums (l.getD k []))) := by
  obtain ⟨b, off, cap, e, _, _, hc⟩ := Rws.at h k (by rw [List.length_map]; exact hk)
  rw [List.length_map] at e
  have hr : (l.map srow).getD k [] = [.string (strOfNums (l.getD k []))] := by simp [List.getD, hk, srow]
  rw [hr] at hc
  have c0 := hc 0 _ rfl
  rw [Nat.mul_one, Nat.add_zero] at c0
  exact ⟨b, off, cap, e, c0⟩

set_option maxHeartbeats 2000000 in
theorem sameTexts_self (l : List (List Int)) (v u : Value) (w : World) (hv : TextsW w v l) (hu : TextsW w u l) :
    Calls Try.prog 22 #[v, u] w fun e w' => e = .returned (.bool true) ∧ Below w.heap.size w w' := by
  have HV : Hid (TextsW w v l ∧ TextsW w u l) := ⟨hv, hu⟩
  obtain ⟨a1, c1, e1, _, m1⟩ := hv.len
  obtain ⟨a2, c2, e2, _, m2⟩ := hu.len
  subst e1
  subst e2
  have hl63 : l.length ≤ 9223372036854775807 := by unfold maxLen at m1; omega
  clear hv hu
  go_enter Try.func22, Try.ntmps22
  go_wp2_with fail
  go_loopw [5] (fun i wr => ∃ k : Nat, k ≤ l.length ∧ i = .int .i64 k ∧ Hid (Below w.heap.size w wr)) (fun i _ => l.length - (intOf i).toNat)
  case atStart => exact ⟨0, Nat.zero_le _, rfl, Below.refl _ _⟩
  case round =>
    obtain ⟨k, hk, rfl, up⟩ := hrel
    by_cases hlt : k < l.length
    · have hlt' : (k : Int) < (l.length : Int) := by omega
      obtain ⟨b, off, cap, e, z0⟩ := (HV.out.1.up up.out).at k hlt
      obtain ⟨b', off', cap', e', z1⟩ := (HV.out.2.up up.out).at k hlt
      simp at e e'
      obtain ⟨rfl, rfl⟩ := e
      obtain ⟨rfl, rfl⟩ := e'
      have z0' := fun (p : UpW wr) => cell_up z0 p
      have z1' := fun (p : UpW wr) => cell_up z1 p
      go_wp2_with fail
      refine wp_region_up (by kernel_rfl) (by kernel_rfl) ?_
      repeat (quiet_step (fail))
      refine wpQuiet_nil ?_
      intro _ hw'
      obtain ⟨p, hw''⟩ := hw'
      subst hw''
      have HU : Hid (Below w.heap.size w p.val) := up_trans up.out p.up
      go_wp2_with fail
      exact ⟨⟨k + 1, by omega, by go_num, HU⟩, by simp [intOf]; omega⟩
    · have hlt' : ¬ (k : Int) < (l.length : Int) := by omega
      go_wp2_with fail
      go_ret
      exact ⟨rfl, up.out⟩
end Go.Proofs.Ytoceddpjkodfkaa

/- The law's own comparison of names, where both are the same. -/
namespace Go.Proofs.Ytoceddpjkodfkaa
open Go.RowKit
set_option linter.unusedVariables false
set_option linter.unusedSimpArgs false

set_option maxHeartbeats 2000000 in
theorem sameNames_self (l : List (List Int × Int)) (v u : Value) (w : World) (hv : NamesW w v l) (hu : NamesW w u l) :
    Calls Try.prog 49 #[v, u] w fun e w' => e = .returned (.bool true) ∧ Below w.heap.size w w' := by
  have HV : Hid (NamesW w v l ∧ NamesW w u l) := ⟨hv, hu⟩
  obtain ⟨a1, c1, e1, _, m1⟩ := hv.len
  obtain ⟨a2, c2, e2, _, m2⟩ := hu.len
  subst e1
  subst e2
  have hl63 : l.length ≤ 9223372036854775807 := by unfold maxLen at m1; omega
  clear hv hu
  go_enter Try.func49, Try.ntmps49
  go_wp2_with fail
  go_loopw [5] (fun i wr => ∃ k : Nat, k ≤ l.length ∧ i = .int .i64 k ∧ Hid (Below w.heap.size w wr)) (fun i _ => l.length - (intOf i).toNat)
  case atStart => exact ⟨0, Nat.zero_le _, rfl, Below.refl _ _⟩
  case round =>
    obtain ⟨k, hk, rfl, up⟩ := hrel
    by_cases hlt : k < l.length
    · have hlt' : (k : Int) < (l.length : Int) := by omega
      obtain ⟨b, off, cap, e, _, _, z0, z1, _⟩ := (HV.out.1.up up.out).at k hlt
      obtain ⟨b', off', cap', e', _, _, y0, y1, _⟩ := (HV.out.2.up up.out).at k hlt
      simp at e e'
      obtain ⟨rfl, rfl⟩ := e
      obtain ⟨rfl, rfl⟩ := e'
      generalize l.getD k ([], 0) = x at *
      obtain ⟨xs, xi⟩ := x
      simp only at z0 z1 y0 y1
      have z0' := fun (p : UpW wr) => cell_up z0 p
      have z1' := fun (p : UpW wr) => cell_up z1 p
      have y0' := fun (p : UpW wr) => cell_up y0 p
      have y1' := fun (p : UpW wr) => cell_up y1 p
      go_wp2_with fail
      refine wp_region_up (by kernel_rfl) (by kernel_rfl) ?_
      repeat (quiet_step (fail))
      refine wpQuiet_nil ?_
      intro _ hw'
      obtain ⟨p, hw''⟩ := hw'
      subst hw''
      have HU : Hid (Below w.heap.size w p.val) := up_trans up.out p.up
      go_wp2_with fail
      exact ⟨⟨k + 1, by omega, by go_num, HU⟩, by simp [intOf]; omega⟩
    · have hlt' : ¬ (k : Int) < (l.length : Int) := by omega
      go_wp2_with fail
      go_ret
      exact ⟨rfl, up.out⟩
end Go.Proofs.Ytoceddpjkodfkaa

/- What is read behind the names were synced, and behind a crash, said plainly. -/
namespace Go.Proofs.Ytoceddpjkodfkaa
open Go.RowKit
set_option linter.unusedVariables false

theorem rank_at {A : Type} {p : A → Bool} {l : List A} {i : Nat} (hi : i < l.length) (h1 : ∀ j (hj : j < l.length), j < i → p l[j] = true) (h2 : p l[i] = false) : rankOf p l = i := by
  have e : l = l.take i ++ l[i] :: l.drop (i + 1) := by
    rw [List.getElem_cons_drop, List.take_append_drop]
  unfold rankOf
  rw [e, takeWhile_all]
  · rw [List.takeWhile_cons_of_neg (by rw [h2]; decide), List.append_nil, List.length_take]
    omega
  · intro x hx
    obtain ⟨j, hj, rfl⟩ := List.getElem_of_mem hx
    rw [List.length_take] at hj
    rw [List.getElem_take]
    exact h1 j (by omega) (by omega)

theorem rankN_at {l : List (List Int × Int)} (h : l.Pairwise fun a b => lessL a.1 b.1 = true) {i : Nat} (hi : i < l.length) : rankN l (l[i]).1 = i := by
  rw [List.pairwise_iff_getElem] at h
  exact rank_at hi (fun j hj hji => h j i hj hi hji) (lessL_self _)

theorem rankF_at {l : List (Int × List Int × Int)} (h : l.Pairwise fun a b => a.1 < b.1) {i : Nat} (hi : i < l.length) : rankF l (l[i]).1 = i := by
  rw [List.pairwise_iff_getElem] at h
  exact rank_at hi (fun j hj hji => by simpa using h j i hj hi hji) (by simp)

/-- Where a name's file lies. -/
theorem named {s : St} (h : Good s) {i : Nat} (hi : i < s.names.length) : ∃ k, ∃ hk : k < s.files.length, (s.files[k]).1 = (s.names[i]).2 ∧ hasF s (s.names[i]).1 = true ∧ idxF s (s.names[i]).1 = k := by
  have hm := h.names.ids _ (List.getElem_mem hi)
  obtain ⟨f, hf, e⟩ := List.mem_map.1 hm
  obtain ⟨k, hk, rfl⟩ := List.getElem_of_mem hf
  have hr := rankN_at h.names.rise hi
  have hid : idN s (s.names[i]).1 = (s.names[i]).2 := by
    unfold idN
    rw [hr]
    simp [List.getD, hi]
  have hrk : rankF s.files (s.names[i]).2 = k := by
    rw [← e]
    exact rankF_at h.rise hk
  refine ⟨k, hk, e, ?_, ?_⟩
  · unfold hasF
    rw [hid]
    unfold thereN thereF
    rw [hr, hrk]
    simp [List.getD, hi, hk, e]
  · unfold idxF
    rw [hid, hrk]

theorem read_at {s : St} (h : Good s) {i k : Nat} (hi : i < s.names.length) (hk : k < s.files.length) (e : (s.files[k]).1 = (s.names[i]).2) : readP s (s.names[i]).1 = ((s.files[k]).2.1, 0) := by
  obtain ⟨j, hj, ej, hh, hx⟩ := named h hi
  have : j = k := by
    have h1 := rankF_at h.rise hj
    have h2 := rankF_at h.rise hk
    rw [ej] at h1
    rw [e] at h2
    omega
  subst this
  unfold readP
  rw [good_check h, hh]
  simp only [if_true]
  rw [hx]
  simp [fileD, List.getD, hj]

theorem crash_files {s : St} (h : Good s) (hs : s.names = s.safe) (keep : List Int) : (crashP s keep).1.files = cutTo keep s.files s.files.length := by
  have hall := h.all
  unfold crashP
  rw [good_check h]
  simp only [if_true]
  unfold sweptOf
  simp only
  refine List.filter_eq_self.2 ?_
  intro f hf
  have hm : f.1 ∈ s.files.map (·.1) := by
    rw [← cutTo_ids keep s.files]
    exact List.mem_map.2 ⟨f, hf, rfl⟩
  obtain ⟨g, hg, e⟩ := List.mem_map.1 hm
  have := hall g hg
  rw [e, hs] at this
  have hst := (stands_iff s.safe f.1).2 (by simpa using this)
  simp [hst]

/-- What is read of a file, and behind a crash. -/
theorem last_read {s : St} (h : Good s) (hs : s.names = s.safe) (keep : List Int) {i : Nat} (hi : i < s.names.length) :
    ∃ (d : List Int) (n : Nat), readP s (s.names[i]).1 = (d, 0) ∧ readP (crashP s keep).1 (s.names[i]).1 = (d.take n, 0) ∧ n ≤ d.length ∧ d.length ≤ 16777216 ∧ ∀ k (hk : k < s.files.length), (s.files[k]).1 = (s.names[i]).2 → (s.files[k]).2.2 ≤ (n : Int) := by
  obtain ⟨k, hk, e, _, _⟩ := named h hi
  have hc := crash_good h keep
  have hcn := crash_names h keep
  have hcf := crash_files h hs keep
  have hsy := h.sync _ (List.getElem_mem hk)
  have hlf := left_le (s.files[k]) (keep.getD k 0) hsy.1 hsy.2
  have hlen : (s.files[k]).2.1.length ≤ 16777216 := by
    have h1 := h.used
    have h2 := h.cap1
    have h3 : ((s.files[k]).2.1.length : Int) ≤ usedOf s.files := by
      have hd : s.files = s.files.take k ++ s.files[k] :: s.files.drop (k + 1) := by
        rw [List.getElem_cons_drop, List.take_append_drop]
      have e1 : usedOf s.files = usedOf (s.files.take k) + (((s.files[k]).2.1.length : Int) + usedOf (s.files.drop (k + 1))) := by
        rw [← used_cons, ← used_append, ← hd]
      have e2 := used_nonneg (s.files.take k)
      have e3 := used_nonneg (s.files.drop (k + 1))
      omega
    omega
  refine ⟨(s.files[k]).2.1, (leftN (s.files[k]) (keep.getD k 0)).toNat, read_at h hi hk e, ?_, by omega, hlen, ?_⟩
  · have hn : (crashP s keep).1.names = s.names := by rw [hcn.1, hs]
    have hi2 : i < (crashP s keep).1.names.length := by rw [hn]; exact hi
    have hk2 : k < (crashP s keep).1.files.length := by rw [hcf, cutTo_len]; exact hk
    have ef : (crashP s keep).1.files[k] = cutF (s.files[k]) (keep.getD k 0) := by
      have e1 := cutTo_at keep s.files s.files.length k hk
      rw [if_pos hk] at e1
      have e2 : (crashP s keep).1.files.getD k (0, [], 0) = cutF (s.files.getD k (0, [], 0)) (keep.getD k 0) := by rw [hcf]; exact e1
      simpa [List.getD, hk2, hk] using e2
    have en : (crashP s keep).1.names[i] = s.names[i] := by simp only [hn]
    have := read_at hc hi2 hk2 (by rw [ef, en]; exact e)
    rw [en, ef] at this
    exact this
  · intro j hj ej
    have : j = k := by
      have h1 := rankF_at h.rise hj
      have h2 := rankF_at h.rise hk
      rw [ej] at h1
      rw [e] at h2
      omega
    subst this
    omega

theorem sync_names {s : St} (h : Good s) : Good (syncNamesP s) ∧ (syncNamesP s).names = (syncNamesP s).safe := ⟨syncNames_good h, rfl⟩

theorem do_six {s : St} : (checkP s = true ∧ doP s ⟨6, [], [], []⟩ = (syncNamesP s, 0)) ∨ (checkP s = false ∧ doP s ⟨6, [], [], []⟩ = (z0, 9)) := by
  cases hc : checkP s
  · right
    refine ⟨rfl, ?_⟩
    unfold doP
    rw [hc]
    rfl
  · left
    refine ⟨rfl, ?_⟩
    unfold doP
    rw [hc]
    simp only [if_true]
    have : actP s ⟨6, [], [], []⟩ = (syncNamesP s, 0) := rfl
    rw [this]
    rfl

theorem list_good {s : St} (h : Good s) : listP s = (s.names.map (·.1), 0) := by
  unfold listP
  rw [good_check h]
  rfl

theorem Octs.cut {w : World} {a : Option Addr} {c : Nat} {l : List Int} (h : Octs w (.slice a l.length c) l) {n : Nat} (hn : n ≤ l.length) : Octs w (.slice a n c) (l.take n) := by
  obtain ⟨h0, h⟩ := h
  refine ⟨fun x hx => h0 x (List.mem_of_mem_take hx), ?_⟩
  rcases h with ⟨hl, a', cap, e, ha⟩ | ⟨hl, b, off, cap, e, hc, hm, hj⟩
  · subst hl
    simp at e
    obtain ⟨rfl, rfl⟩ := e
    have : n = 0 := by simpa using hn
    subst this
    exact .inl ⟨by simp, _, _, rfl, ha⟩
  · simp at e
    obtain ⟨rfl, rfl⟩ := e
    have hlen : (l.take n).length = n := by rw [List.length_take]; omega
    by_cases h0 : n = 0
    · subst h0
      exact .inl ⟨by simp, _, _, rfl, fun h => by cases h⟩
    · refine .inr ⟨?_, b, off, c, by rw [hlen], by omega, hm, fun j x hx => ?_⟩
      · intro q
        rw [q] at hlen
        simp at hlen
        omega
      · rw [List.getElem?_take] at hx
        split at hx
        · exact hj j x hx
        · cases hx
end Go.Proofs.Ytoceddpjkodfkaa

/- States of the document's own, in memory that the call made: as the program's (P8, Q4, Q8, Q9, QA, QB, R1, R4, R7), over the document's types. -/
namespace Go.Proofs.Ytoceddpjkodfkaa
open Go.RowKit
set_option linter.unusedVariables false
set_option linter.unusedSimpArgs false

/-- Files in memory of the call's own. -/
def OwnG (w : World) (base : Nat) (v : Value) (m : List FRow) : Prop :=
  OwnR w base 86 3 v (m.map frow) ∧ (∀ y ∈ m, OwnB w base y.1 y.2.2.1 ∧ okRow y) ∧ m.Pairwise (fun y z => Apart y.1 z.1)

theorem OwnG.up {w w' : World} {base : Nat} {v : Value} {m : List FRow} (h : OwnG w base v m) (hb : Below w.heap.size w w') : OwnG w' base v m :=
  ⟨h.1.up hb, fun y hy => ⟨(h.2.1 y hy).1.up hb, (h.2.1 y hy).2⟩, h.2.2⟩

theorem OwnG.far {w w' : World} {base : Nat} {v : Value} {m : List FRow} {r : Option Nat} (h : OwnG w base v m) (hg : w.grownBy w' r) (h1 : v.ownBlock = none ∨ v.ownBlock ≠ r) (h2 : ∀ y ∈ m, y.1.ownBlock = none ∨ y.1.ownBlock ≠ r) : OwnG w' base v m :=
  ⟨h.1.far hg h1, fun y hy => ⟨(h.2.1 y hy).1.far hg (h2 y hy), (h.2.1 y hy).2⟩, h.2.2⟩

theorem OwnG.mono {w : World} {base base' : Nat} {v : Value} {m : List FRow} (h : OwnG w base v m) (hb : base' ≤ base) : OwnG w base' v m :=
  ⟨h.1.mono hb, fun y hy => ⟨(h.2.1 y hy).1.mono hb, (h.2.1 y hy).2⟩, h.2.2⟩

theorem FilesW.ownG {w : World} {base : Nat} {v : Value} {m : List FRow} (h : OwnG w base v m) : FilesW w v (m.map (·.2)) :=
  ⟨m, rfl, Rws.own h.1, fun y hy => ⟨Octs.own (h.2.1 y hy).1 (h.2.1 y hy).2.1, (h.2.1 y hy).2.2⟩⟩

/-- A state in memory of the call's own. -/
def OwnU (w : World) (base : Nat) (v : Value) (s : St) : Prop := ∃ vf vn vs m, v = .agg #[.int .i64 s.cap, vf, vn, vs, .int .i64 s.next] ∧ m.map (·.2) = s.files ∧ OwnG w base vf m ∧ OwnN w base 88 vn s.names ∧ OwnN w base 88 vs s.safe ∧ Apart vn vs ∧ In64 s.cap ∧ In64 s.next

theorem OwnU.up {w w' : World} {base : Nat} {v : Value} {s : St} (h : OwnU w base v s) (hb : Below w.heap.size w w') : OwnU w' base v s := by
  obtain ⟨vf, vn, vs, m, e, hm, h1, h2, h3, h4⟩ := h
  exact ⟨vf, vn, vs, m, e, hm, h1.up hb, h2.up hb, h3.up hb, h4⟩

theorem StW.ownU {w : World} {base : Nat} {v : Value} {s : St} (h : OwnU w base v s) : StW w v s := by
  obtain ⟨vf, vn, vs, m, e, hm, h1, h2, h3, _, h5, h6⟩ := h
  exact ⟨vf, vn, vs, e, by rw [← hm]; exact FilesW.ownG h1, NamesW.own h2, NamesW.own h3, h5, h6⟩

theorem OwnU.mono {w : World} {base base' : Nat} {v : Value} {s : St} (h : OwnU w base v s) (hb : base' ≤ base) : OwnU w base' v s := by
  obtain ⟨vf, vn, vs, m, e, hm, h1, h2, h3, h4⟩ := h
  exact ⟨vf, vn, vs, m, e, hm, h1.mono hb, h2.mono hb, h3.mono hb, h4⟩

theorem Try.info86 : (Try.prog.info? 86).map (fun i => (i.zero, i.size, i.bytes)) = some (some (.agg #[.int .i64 0, .slice none 0 0, .int .i64 0]), 3, 40) := by kernel_rfl

/-- One file more. -/
theorem OwnG.snoc {w' w6 : World} {base : Nat} {vl : Option Addr} {n cl : Nat} {v6 : Value} {m : List FRow} {y : FRow} (h : OwnG w' base (.slice vl n cl) m) (hb : OwnB w' base y.1 y.2.2.1) (hok : okRow y) (hnew : ∀ z ∈ m, Apart z.1 y.1) (o : Obj) (o6 : OwnR w6 base 86 3 v6 (m.map frow ++ [frow y])) (g6 : (w'.alloc o).grownBy w6 (Value.ownBlock (.slice vl n cl))) : OwnG w6 base v6 (m ++ [y]) := by
  have u := up_al (Below.refl w'.heap.size w') o
  have hr := (h.up u).1
  refine ⟨by rw [List.map_append]; exact o6, ?_, ?_⟩
  · intro z hz
    rcases List.mem_append.1 hz with hz | hz
    · have := (h.up u).2.1 z hz
      exact ⟨this.1.far g6 (own_own_ne this.1 hr.2 (by decide)), this.2⟩
    · simp at hz
      subst hz
      exact ⟨(hb.up u).far g6 (own_own_ne (hb.up u) hr.2 (by decide)), hok⟩
  · rw [List.pairwise_append]
    refine ⟨h.2.2, by simp, ?_⟩
    intro a ha b hb'
    simp at hb'
    subst hb'
    exact hnew a ha

/-- A state in a block of its own. -/
def OwnT (w : World) (base B : Nat) (s : St) : Prop := True ∧ ∃ vf vn vs m, w.heap[B]? = some (.cells #[.int .i64 s.cap, vf, vn, vs, .int .i64 s.next] 25) ∧ m.map (·.2) = s.files ∧ OwnG w base vf m ∧ OwnN w base 88 vn s.names ∧ OwnN w base 88 vs s.safe ∧ Apart vn vs ∧ In64 s.cap ∧ In64 s.next

theorem OwnT.up {w w' : World} {base B : Nat} {s : St} (h : OwnT w base B s) (hb : Below w.heap.size w w') : OwnT w' base B s := by
  obtain ⟨h0, vf, vn, vs, m, hb1, hm, h1, h2, h3, h4⟩ := h
  exact ⟨h0, vf, vn, vs, m, blk_up hb1 hb, hm, h1.up hb, h2.up hb, h3.up hb, h4⟩

theorem OwnG.shapes {w : World} {base : Nat} {v : Value} {m : List FRow} (h : OwnG w base v m) : ∀ y ∈ m, (∃ a n c, y.1 = .slice a n c) ∧ In64 y.2.1 := by
  intro y hy
  have h1 := h.2.1 y hy
  obtain ⟨a, c, e, _⟩ := (Octs.own h1.1 h1.2.1).slice
  exact ⟨⟨a, _, c, e⟩, h1.2.2.2.1⟩

theorem OwnG.filter {w w' : World} {base : Nat} {v v' : Value} {m : List FRow} (p : FRow → Bool) {r : Option Nat} (h : OwnG w base v m) (hv : OwnR w' base 86 3 v' ((m.filter p).map frow)) (hg : w.grownBy w' v.ownBlock) : OwnG w' base v' (m.filter p) := by
  refine ⟨hv, fun y hy => ?_, h.2.2.filter p⟩
  have h1 := h.2.1 y (List.mem_filter.1 hy).1
  exact ⟨h1.1.far hg (own_own_ne h1.1 h.1.2 (by decide)), h1.2⟩

/-- A state in its block, laid open. -/
def OpenT (w : World) (base B : Nat) (s : St) (af : Option Addr) (cf : Nat) (an : Option Addr) (cn : Nat) (as' : Option Addr) (cs' : Nat) (m : List FRow) : Prop :=
  True ∧ w.heap[B]? = some (.cells #[.int .i64 s.cap, .slice af m.length cf, .slice an s.names.length cn, .slice as' s.safe.length cs', .int .i64 s.next] 25) ∧ m.map (·.2) = s.files ∧ OwnG w base (.slice af m.length cf) m ∧
    OwnN w base 88 (.slice an s.names.length cn) s.names ∧ OwnN w base 88 (.slice as' s.safe.length cs') s.safe ∧ Apart (.slice an s.names.length cn) (.slice as' s.safe.length cs') ∧ In64 s.cap ∧ In64 s.next

theorem OwnT.open {w : World} {base B : Nat} {s : St} (h : OwnT w base B s) : ∃ af cf an cn as' cs' m, OpenT w base B s af cf an cn as' cs' m := by
  obtain ⟨hB, vf, vn, vs, m, hb, hm, of, on, os, hap, hi1, hi2⟩ := h
  obtain ⟨a1, c1, e1, _, _⟩ := (NamesW.own on).len
  obtain ⟨a2, c2, e2, _, _⟩ := (NamesW.own os).len
  obtain ⟨a3, c3, e3, _, _⟩ := (Rws.own of.1).len
  rw [List.length_map] at e3
  subst e1
  subst e2
  subst e3
  exact ⟨_, _, _, _, _, _, m, hB, hb, hm, of, on, os, hap, hi1, hi2⟩

theorem OpenT.shut {w : World} {base B : Nat} {s : St} {af : Option Addr} {cf : Nat} {an : Option Addr} {cn : Nat} {as' : Option Addr} {cs' : Nat} {m : List FRow} (h : OpenT w base B s af cf an cn as' cs' m) : OwnT w base B s := by
  obtain ⟨hB, hb, hm, of, on, os, hap, hi1, hi2⟩ := h
  exact ⟨hB, _, _, _, m, hb, hm, of, on, os, hap, hi1, hi2⟩

theorem OpenT.up {w w' : World} {base B : Nat} {s : St} {af : Option Addr} {cf : Nat} {an : Option Addr} {cn : Nat} {as' : Option Addr} {cs' : Nat} {m : List FRow} (h : OpenT w base B s af cf an cn as' cs' m) (hb : Below w.heap.size w w') : OpenT w' base B s af cf an cn as' cs' m := by
  obtain ⟨hB, h1, hm, of, on, os, hap, hi1, hi2⟩ := h
  exact ⟨hB, blk_up h1 hb, hm, of.up hb, on.up hb, os.up hb, hap, hi1, hi2⟩

/-- New names are stored. -/
theorem OpenT.setNames {w w1 : World} {base B : Nat} {s : St} {af : Option Addr} {cf : Nat} {an : Option Addr} {cn : Nat} {as' : Option Addr} {cs' : Nat} {m : List FRow} (h : OpenT w base B s af cf an cn as' cs' m) (hbase : base ≤ w.heap.size) {v' : Value} {l' : List (List Int × Int)}
    (hg : w.grownBy w1 (Value.ownBlock (.slice an s.names.length cn))) (hn : Near w (.slice an s.names.length cn) v') (ho : OwnN w1 base 88 v' l') :
    w1.heap[B]? = some (.cells #[.int .i64 s.cap, .slice af m.length cf, .slice an s.names.length cn, .slice as' s.safe.length cs', .int .i64 s.next] 25) ∧ OwnT (w1.setCell ⟨B, 2, none⟩ v') base B { s with names := l' } ∧ Beside base B w (w1.setCell ⟨B, 2, none⟩ v') := by
  obtain ⟨hB, hb, hm, of, on, os, hap, hi1, hi2⟩ := h
  have nB : some B ≠ Value.ownBlock (.slice an s.names.length cn) := by
    have := own_blk_ne on.2.2 hb (by decide)
    rcases this with q | q
    · rw [q]; simp
    · exact fun e => q e.symm
  have b1 := blk_grown hb hg nB
  have of1 := of.far hg (own_own_ne of.1.2 on.2.2 (by decide)) (fun y hy => own_own_ne (of.2.1 y hy).1 on.2.2 (by decide))
  have os1 := os.far hg hap.symm
  have g5 := grown_set w1 ⟨B, 2, none⟩ v'
  refine ⟨b1, ⟨hB, _, _, _, m, blk_set b1 2 v', hm, ?_, ?_, ?_, hn.apart hap os.2.2, hi1, hi2⟩, ?_⟩
  · exact of1.far g5 (own_blk_ne of1.1.2 b1 (by decide)) (fun y hy => own_blk_ne (of1.2.1 y hy).1 b1 (by decide))
  · exact ho.far g5 (own_blk_ne ho.2.2 b1 (by decide))
  · exact os1.far g5 (own_blk_ne os1.2.2 b1 (by decide))
  · refine ((Beside.refl base B w).grown hg hbase (fun k hk => .inl (on.2.2.lt k hk).1)).grown g5 (Nat.le_trans hbase hg.size) (fun k hk => ?_)
    injection hk with hk
    rw [← hk]
    exact .inr rfl

/-- New safe names, in new memory, are stored. -/
theorem OpenT.setSafe {w w1 : World} {base B : Nat} {s : St} {af : Option Addr} {cf : Nat} {an : Option Addr} {cn : Nat} {as' : Option Addr} {cs' : Nat} {m : List FRow} (h : OpenT w base B s af cf an cn as' cs' m) (hbase : base ≤ w.heap.size) {v' : Value} {l' : List (List Int × Int)}
    (hg : Below w.heap.size w w1) (ho : OwnN w1 w.heap.size 88 v' l') :
    w1.heap[B]? = some (.cells #[.int .i64 s.cap, .slice af m.length cf, .slice an s.names.length cn, .slice as' s.safe.length cs', .int .i64 s.next] 25) ∧ OwnT (w1.setCell ⟨B, 3, none⟩ v') base B { s with safe := l' } ∧ Beside base B w (w1.setCell ⟨B, 3, none⟩ v') := by
  obtain ⟨hB, hb, hm, of, on, os, hap, hi1, hi2⟩ := h
  have b1 := blk_up hb hg
  have of1 := of.up hg
  have on1 := on.up hg
  have g5 := grown_set w1 ⟨B, 3, none⟩ v'
  refine ⟨b1, ⟨hB, _, _, _, m, blk_set b1 3 v', hm, ?_, ?_, ?_, apart_new on.2.2 ho.2.2, hi1, hi2⟩, ?_⟩
  · exact of1.far g5 (own_blk_ne of1.1.2 b1 (by decide)) (fun y hy => own_blk_ne (of1.2.1 y hy).1 b1 (by decide))
  · exact on1.far g5 (own_blk_ne on1.2.2 b1 (by decide))
  · exact (ho.mono hbase).far g5 (own_blk_ne ho.2.2 b1 (by decide))
  · refine (Below_beside hg hbase).grown g5 (Nat.le_trans hbase hg.size) (fun k hk => ?_)
    injection hk with hk
    rw [← hk]
    exact .inr rfl

/-- How many are synced is written. -/
theorem OwnG.sync {w : World} {base g n c : Nat} {m : List FRow} (h : OwnG w base (.slice (some ⟨g, 0, none⟩) n c) m) (hn : m.length = n) (i : Nat) (hi : i < n) (k : Int) (hk : In64 k) :
    OwnG (w.setCell ⟨g, i * 3 + 2, none⟩ (.int .i64 k)) base (.slice (some ⟨g, 0, none⟩) n c) (m.set i ((m.getD i noF).1, (m.getD i noF).2.1, (m.getD i noF).2.2.1, k)) := by
  have st := OwnR.set h.1 (by rw [List.length_map]; exact hn) i hi 2 (by decide) (.int .i64 k)
  have hmem : m.getD i noF ∈ m := by
    have : i < m.length := by omega
    simp [List.getD, this]
  have hrow : ((m.map frow).getD i []).set 2 (.int .i64 k) = frow ((m.getD i noF).1, (m.getD i noF).2.1, (m.getD i noF).2.2.1, k) := by
    have : i < m.length := by omega
    simp [List.getD, this, frow]
  rw [hrow, ← List.map_set] at st
  refine ⟨st.1, ?_, ?_⟩
  · intro y hy
    rcases List.mem_or_eq_of_mem_set hy with q | q
    · have := h.2.1 y q
      exact ⟨this.1.far st.2.1 (own_own_ne this.1 h.1.2 (by decide)), this.2⟩
    · have := h.2.1 _ hmem
      rw [q]
      exact ⟨this.1.far st.2.1 (own_own_ne this.1 h.1.2 (by decide)), this.2.1, this.2.2.1, this.2.2.2.1, hk⟩
  · refine pairwise_set (by omega) h.2.2 fun j hj hne => ?_
    exact apart_at h.2.2 i j (by omega) hj (fun q => hne q.symm)

/-- Octets were appended to a file: in w1; its slice is written. -/
theorem OwnG.data {w w1 : World} {base g n c : Nat} {m : List FRow} (h : OwnG w base (.slice (some ⟨g, 0, none⟩) n c) m) (hn : m.length = n) (i : Nat) (hi : i < n) {v' : Value} {d : List Int} (ho : OwnB w1 base v' d) (hg : w.grownBy w1 (m.getD i noF).1.ownBlock) (hnear : Near w (m.getD i noF).1 v') (hd : OctL d ∧ d.length ≤ 140737488355328) :
    OwnG (w1.setCell ⟨g, i * 3 + 1, none⟩ v') base (.slice (some ⟨g, 0, none⟩) n c) (m.set i (v', (m.getD i noF).2.1, d, (m.getD i noF).2.2.2)) := by
  have hmem : m.getD i noF ∈ m := by
    have : i < m.length := by omega
    simp [List.getD, this]
  have hi0 := h.2.1 _ hmem
  have hR1 := h.1.far hg (own_own_ne h.1.2 hi0.1 (by decide))
  have st := OwnR.set hR1 (by rw [List.length_map]; exact hn) i hi 1 (by decide) v'
  have hrow : ((m.map frow).getD i []).set 1 v' = frow (v', (m.getD i noF).2.1, d, (m.getD i noF).2.2.2) := by
    have : i < m.length := by omega
    simp [List.getD, this, frow]
  rw [hrow, ← List.map_set] at st
  have others : ∀ j, j < m.length → j ≠ i → OwnB w1 base (m.getD j noF).1 (m.getD j noF).2.2.1 := by
    intro j hj hne
    have hm : m.getD j noF ∈ m := by simp [List.getD, hj]
    exact (h.2.1 _ hm).1.far hg (apart_at h.2.2 j i hj (by omega) hne)
  refine ⟨st.1, ?_, ?_⟩
  · intro y hy
    obtain ⟨j, hj, rfl⟩ := List.getElem_of_mem hy
    have hj' : j < m.length := by simpa using hj
    rw [List.getElem_set]
    by_cases e : i = j
    · rw [if_pos e]
      exact ⟨ho.far st.2.1 (own_own_ne ho hR1.2 (by decide)), hd.1, hd.2, hi0.2.2.2.1, hi0.2.2.2.2⟩
    · rw [if_neg e]
      have h1 := others j hj' (fun q => e q.symm)
      have e1 : m.getD j noF = m[j] := by simp [List.getD, hj']
      rw [e1] at h1
      exact ⟨h1.far st.2.1 (own_own_ne h1 hR1.2 (by decide)), (h.2.1 m[j] (List.getElem_mem hj')).2⟩
  · refine pairwise_set (by omega) h.2.2 fun j hj hne => ?_
    have hm : m.getD j noF ∈ m := by simp [List.getD, hj]
    exact hnear.apart (apart_at h.2.2 i j (by omega) hj (fun q => hne q.symm)) (h.2.1 _ hm).1

theorem OpenT.rowAt {w : World} {base B : Nat} {s : St} {af : Option Addr} {cf : Nat} {an : Option Addr} {cn : Nat} {as' : Option Addr} {cs' : Nat} {m : List FRow} (h : OpenT w base B s af cf an cn as' cs' m) (i : Nat) (hi : i < s.files.length) :
    i < m.length ∧ (∃ g, af = some ⟨g, 0, none⟩) ∧ (m.getD i noF).2 = fileD s i ∧ ∃ a c, (m.getD i noF).1 = .slice a (fileD s i).2.1.length c := by
  have hl : m.length = s.files.length := by
    have := congrArg List.length h.2.2.1
    simpa using this
  have him : i < m.length := by omega
  have e : (m.getD i noF).2 = fileD s i := by
    unfold fileD
    rw [← h.2.2.1]
    simp [List.getD, him]
  refine ⟨him, ?_, e, ?_⟩
  · rcases h.2.2.2.1.1.2.2 with ⟨e2, e3⟩ | ⟨g, cap', cur, e2, _⟩
    · rw [List.length_map] at e3; omega
    · simp at e2
      exact ⟨g, e2.1⟩
  · have hm : m.getD i noF ∈ m := by simp [List.getD, him]
    have h1 := h.2.2.2.1.2.1 _ hm
    obtain ⟨a, c, e1, _⟩ := (Octs.own h1.1 h1.2.1).slice
    rw [e] at e1
    exact ⟨a, c, e1⟩

theorem OpenT.cells3 {w : World} {base B : Nat} {s : St} {g cf : Nat} {an : Option Addr} {cn : Nat} {as' : Option Addr} {cs' : Nat} {m : List FRow} (h : OpenT w base B s (some ⟨g, 0, none⟩) cf an cn as' cs' m) (i : Nat) (hi : i < m.length) :
    w.cell? ⟨g, i * 3, none⟩ = some (.int .i64 (m.getD i noF).2.1) ∧ w.cell? ⟨g, i * 3 + 1, none⟩ = some (m.getD i noF).1 ∧ w.cell? ⟨g, i * 3 + 2, none⟩ = some (.int .i64 (m.getD i noF).2.2.2) ∧ ∀ q, w.frozen? ⟨g, q, none⟩ = false := by
  obtain ⟨b, off, cap, e, _, _, hc⟩ := (Rws.own h.2.2.2.1.1).at i (by rw [List.length_map]; exact hi)
  simp at e
  obtain ⟨⟨rfl, rfl⟩, _⟩ := e
  have hr : (m.map frow).getD i [] = frow (m.getD i noF) := by simp [List.getD, hi]
  rw [hr] at hc
  have c0 := hc 0 _ rfl
  have c1 := hc 1 _ rfl
  have c2 := hc 2 _ rfl
  simp only [Nat.zero_add, Nat.add_zero] at c0 c1 c2
  refine ⟨c0, c1, c2, fun q => ?_⟩
  obtain ⟨cur, hh, _⟩ := h.2.2.2.1.1.blk
  exact blk_frozen hh q

/-- A file's row was written: w1 is w but for blocks of the file's octets, then the row's block. -/
theorem OpenT.setFile {w w1 : World} {base B : Nat} {s : St} {g cf : Nat} {an : Option Addr} {cn : Nat} {as' : Option Addr} {cs' : Nat} {m : List FRow} (h : OpenT w base B s (some ⟨g, 0, none⟩) cf an cn as' cs' m) (hbase : base ≤ w.heap.size) (i : Nat) (hi : i < m.length) {r : Option Nat} (hg : w.grownBy w1 r) (hr : r = none ∨ r = (m.getD i noF).1.ownBlock)
    (k : Nat) (u : Value) (y : FRow) (hf : OwnG (w1.setCell ⟨g, k, none⟩ u) base (.slice (some ⟨g, 0, none⟩) m.length cf) (m.set i y)) : OwnT (w1.setCell ⟨g, k, none⟩ u) base B { s with files := s.files.set i y.2 } ∧ Beside base B w (w1.setCell ⟨g, k, none⟩ u) := by
  obtain ⟨hB, hb, hm, of, on, os, hap, hi1, hi2⟩ := h
  have hmem : m.getD i noF ∈ m := by simp [List.getD, hi]
  have hd := (of.2.1 _ hmem).1
  have ne1 : ∀ {e : TypeId} {sz : Nat} {v : Value} {n : Nat} {xs : List Value}, w.ownsRow base e sz v n xs → e ≠ 5 → v.ownBlock = none ∨ v.ownBlock ≠ r := by
    intro e sz v n xs ho he
    rcases hr with q | q
    · rw [q]
      cases v.ownBlock with
      | none => exact .inl rfl
      | some b => exact .inr (by simp)
    · rw [q]
      exact own_own_ne ho hd he
  have nB : some B ≠ r := by
    rcases hr with q | q
    · rw [q]; simp
    · rw [q]
      have := own_blk_ne hd hb (by decide)
      rcases this with q | q
      · rw [q]; simp
      · exact fun e => q e.symm
  have b1 := blk_grown hb hg nB
  have on1 := on.far hg (ne1 on.2.2 (by decide))
  have os1 := os.far hg (ne1 os.2.2 (by decide))
  have of1 := of.1.far hg (ne1 of.1.2 (by decide))
  have g5 := grown_set w1 ⟨g, k, none⟩ u
  have hgb := of.1.2.lt g rfl
  have nBg : some B ≠ some g := by
    have := own_blk_ne of1.2 b1 (by decide)
    simp [Value.ownBlock] at this
    intro q
    injection q with q
    exact this q.symm
  refine ⟨⟨hB, _, _, _, m.set i y, blk_grown b1 g5 nBg, ?_, ?_, on1.far g5 (own_own_ne on1.2.2 of1.2 (by decide)), os1.far g5 (own_own_ne os1.2.2 of1.2 (by decide)), hap, hi1, hi2⟩, ?_⟩
  · rw [map_set_snd, hm]
  · exact hf
  · refine ((Beside.refl base B w).grown hg hbase (fun j hj => ?_)).grown g5 (Nat.le_trans hbase hg.size) (fun j hj => by injection hj with hj; rw [← hj]; exact .inl hgb.1)
    rcases hr with q | q
    · rw [q] at hj; cases hj
    · rw [q] at hj; exact .inl (hd.lt j hj).1

theorem OpenT.setNext {w : World} {base B : Nat} {s : St} {af : Option Addr} {cf : Nat} {an : Option Addr} {cn : Nat} {as' : Option Addr} {cs' : Nat} {m : List FRow} (h : OpenT w base B s af cf an cn as' cs' m) (hbase : base ≤ w.heap.size) (k : Int) (hk : In64 k) :
    OwnT (w.setCell ⟨B, 4, none⟩ (.int .i64 k)) base B { s with next := k } ∧ Beside base B w (w.setCell ⟨B, 4, none⟩ (.int .i64 k)) := by
  obtain ⟨hB, hb, hm, of, on, os, hap, hi1, hi2⟩ := h
  have g5 := grown_set w ⟨B, 4, none⟩ (.int .i64 k)
  refine ⟨⟨hB, _, _, _, m, blk_set hb 4 _, hm, ?_, ?_, ?_, hap, hi1, hk⟩, ?_⟩
  · exact of.far g5 (own_blk_ne of.1.2 hb (by decide)) (fun y hy => own_blk_ne (of.2.1 y hy).1 hb (by decide))
  · exact on.far g5 (own_blk_ne on.2.2 hb (by decide))
  · exact os.far g5 (own_blk_ne os.2.2 hb (by decide))
  · exact (Beside.refl base B w).grown g5 hbase (fun j hj => by injection hj with hj; rw [← hj]; exact .inr rfl)

theorem OpenT.addFile {w w1 : World} {base B : Nat} {s : St} {af : Option Addr} {cf : Nat} {an : Option Addr} {cn : Nat} {as' : Option Addr} {cs' : Nat} {m : List FRow} (h : OpenT w base B s af cf an cn as' cs' m) (hbase : base ≤ w.heap.size) {v' : Value} (id : Int) (hid : In64 id)
    (hg : w.grownBy w1 (Value.ownBlock (.slice af m.length cf))) (ho : OwnR w1 base 86 3 v' (m.map frow ++ [[.int .i64 id, .slice none 0 0, .int .i64 0]])) :
    w1.heap[B]? = some (.cells #[.int .i64 s.cap, .slice af m.length cf, .slice an s.names.length cn, .slice as' s.safe.length cs', .int .i64 s.next] 25) ∧ OwnT (w1.setCell ⟨B, 1, none⟩ v') base B { s with files := s.files ++ [(id, [], 0)] } ∧ Beside base B w (w1.setCell ⟨B, 1, none⟩ v') := by
  obtain ⟨hB, hb, hm, of, on, os, hap, hi1, hi2⟩ := h
  have nB : some B ≠ Value.ownBlock (.slice af m.length cf) := by
    have := own_blk_ne of.1.2 hb (by decide)
    rcases this with q | q
    · rw [q]; simp
    · exact fun e => q e.symm
  have b1 := blk_grown hb hg nB
  have on1 := on.far hg (own_own_ne on.2.2 of.1.2 (by decide))
  have os1 := os.far hg (own_own_ne os.2.2 of.1.2 (by decide))
  have g5 := grown_set w1 ⟨B, 1, none⟩ v'
  have ho5 := ho.far g5 (own_blk_ne ho.2 b1 (by decide))
  refine ⟨b1, ⟨hB, _, _, _, m ++ [(.slice none 0 0, id, [], 0)], blk_set b1 1 v', ?_, ⟨?_, ?_, ?_⟩, ?_, ?_, hap, hi1, hi2⟩, ?_⟩
  · simp [hm]
  · rw [List.map_append]
    exact ho5
  · intro y hy
    rcases List.mem_append.1 hy with q | q
    · have h1 := of.2.1 y q
      have h2 := h1.1.far hg (own_own_ne h1.1 of.1.2 (by decide))
      exact ⟨h2.far g5 (own_blk_ne h2 b1 (by decide)), h1.2⟩
    · simp at q
      subst q
      exact ⟨OwnB.nil _ _, ⟨(fun x hx => by cases hx), by simp, hid, by show In64 0; unfold In64; omega⟩⟩
  · rw [List.pairwise_append]
    refine ⟨of.2.2, by simp, fun a ha b hb => ?_⟩
    simp at hb
    subst hb
    exact Apart.symm (.inl rfl)
  · exact on1.far g5 (own_blk_ne on1.2.2 b1 (by decide))
  · exact os1.far g5 (own_blk_ne os1.2.2 b1 (by decide))
  · refine ((Beside.refl base B w).grown hg hbase (fun k hk => .inl (of.1.2.lt k hk).1)).grown g5 (Nat.le_trans hbase hg.size) (fun k hk => ?_)
    injection hk with hk
    rw [← hk]
    exact .inr rfl

theorem OwnU.zero (w : World) (base : Nat) (c n : Int) (hc : In64 c) (hn : In64 n) : OwnU w base (.agg #[.int .i64 c, .slice none 0 0, .slice none 0 0, .slice none 0 0, .int .i64 n]) ⟨c, [], [], [], n⟩ :=
  ⟨_, _, _, [], rfl, rfl, ⟨OwnR.nil _ _ _ _, (fun y hy => by cases hy), List.Pairwise.nil⟩, OwnN.nil _ _ _, OwnN.nil _ _ _, .inl rfl, hc, hn⟩

/-- A state through its own block, and a number. -/
theorem results_docs1 {fn : Func} {r k : Nat} (h : fn.results = #[.cell r 25, .tmp k]) (tmps : Array Value) (w : World) {N : Nat} {a b c d e x : Value} (ht : tmps.getD r undef = .pointer (some ⟨N, 0, none⟩)) (hx : tmps.getD k undef = x)
    (hc : w.heap[N]? = some (.cells #[a, b, c, d, e] 25)) : (results fn tmps).run Try.prog w = .ok (.tuple #[.agg #[a, b, c, d, e], x]) w := by
  have c0 := blk_cell hc 0 a rfl
  have c1 := blk_cell hc 1 b rfl
  have c2 := blk_cell hc 2 c rfl
  have c3 := blk_cell hc 3 d rfl
  have c4 := blk_cell hc 4 e rfl
  have ht' : tmps[r]?.getD undef = .pointer (some ⟨N, 0, none⟩) := by simpa using ht
  have hx' : tmps[k]?.getD undef = x := by simpa using hx
  simp only [results, h]
  simp [ht', hx', go_sem, c0, c1, c2, c3, c4]

/-- What is owned but for the state's own block. -/
theorem OwnT.take {w : World} {base B : Nat} {s : St} (h : OwnT w base B s) : ∃ vf vn vs, w.heap[B]? = some (.cells #[.int .i64 s.cap, vf, vn, vs, .int .i64 s.next] 25) ∧ OwnU w base (.agg #[.int .i64 s.cap, vf, vn, vs, .int .i64 s.next]) s := by
  obtain ⟨_, vf, vn, vs, m, hb, hm, of, on, os, hap, hi1, hi2⟩ := h
  exact ⟨vf, vn, vs, hb, vf, vn, vs, m, rfl, hm, of, on, os, hap, hi1, hi2⟩

/-- A whole state is stored into a block of its kind. -/
theorem OwnU.put {w : World} {base : Nat} {s : St} {a b c d e : Value} (h : OwnU w base (.agg #[a, b, c, d, e]) s) {N : Nat} {x0 x1 x2 x3 x4 : Value} (hb : w.heap[N]? = some (.cells #[x0, x1, x2, x3, x4] 25)) :
    OwnT (set5 w N a b c d e) base N s ∧ OwnU (set5 w N a b c d e) base (.agg #[a, b, c, d, e]) s := by
  obtain ⟨vf, vn, vs, m, ev, hm, of, on, os, hap, hi1, hi2⟩ := h
  have g5 := set5_grown w N a b c d e
  have b5 := set5_blk hb a b c d e
  simp at ev
  obtain ⟨rfl, rfl, rfl, rfl, rfl⟩ := ev
  have of5 := of.far g5 (own_blk_ne of.1.2 hb (by decide)) (fun y hy => own_blk_ne (of.2.1 y hy).1 hb (by decide))
  have on5 := on.far g5 (own_blk_ne on.2.2 hb (by decide))
  have os5 := os.far g5 (own_blk_ne os.2.2 hb (by decide))
  exact ⟨⟨trivial, _, _, _, m, b5, hm, of5, on5, os5, hap, hi1, hi2⟩, ⟨_, _, _, m, rfl, hm, of5, on5, os5, hap, hi1, hi2⟩⟩

theorem OwnU.shape {w : World} {base : Nat} {v : Value} {s : St} (h : OwnU w base v s) : ∃ af nf cf an nn cn as' ns cs', v = .agg #[.int .i64 s.cap, .slice af nf cf, .slice an nn cn, .slice as' ns cs', .int .i64 s.next] := by
  obtain ⟨vf, vn, vs, m, rfl, hm, of, on, os, hap, hi1, hi2⟩ := h
  obtain ⟨a1, c1, e1, _, _⟩ := (NamesW.own on).len
  obtain ⟨a2, c2, e2, _, _⟩ := (NamesW.own os).len
  obtain ⟨a3, c3, e3, _, _⟩ := (Rws.own of.1).len
  subst e1
  subst e2
  subst e3
  exact ⟨_, _, _, _, _, _, _, _, _, rfl⟩

/-- The rows' block was written: the files are others. -/
theorem OpenT.setFiles {w w1 : World} {base B : Nat} {s : St} {g cf : Nat} {an : Option Addr} {cn : Nat} {as' : Option Addr} {cs' : Nat} {m m' : List FRow} (h : OpenT w base B s (some ⟨g, 0, none⟩) cf an cn as' cs' m) (hl : m'.length = m.length) (hg : w.grownBy w1 (some g)) (hf : OwnG w1 base (.slice (some ⟨g, 0, none⟩) m.length cf) m') (hbase : base ≤ w.heap.size) :
    OpenT w1 base B { s with files := m'.map (·.2) } (some ⟨g, 0, none⟩) cf an cn as' cs' m' ∧ Beside base B w w1 := by
  obtain ⟨hB, hb, hm, of, on, os, hap, hi1, hi2⟩ := h
  have hgb := of.1.2.lt g rfl
  have nB : some B ≠ some g := by
    have := own_blk_ne of.1.2 hb (by decide)
    simp [Value.ownBlock] at this
    intro q
    injection q with q
    exact this q.symm
  refine ⟨⟨trivial, ?_, rfl, ?_, on.far hg (own_own_ne on.2.2 of.1.2 (by decide)), os.far hg (own_own_ne os.2.2 of.1.2 (by decide)), hap, hi1, hi2⟩, ?_⟩
  · rw [hl]
    exact blk_grown hb hg nB
  · rw [hl]
    exact hf
  · exact (Beside.refl base B w).grown hg hbase (fun k hk => by injection hk with hk; exact .inl (by omega))

theorem OpenT.same {w : World} {base B : Nat} {s s' : St} {af : Option Addr} {cf : Nat} {an : Option Addr} {cn : Nat} {as' : Option Addr} {cs' : Nat} {m : List FRow} (h : OpenT w base B s af cf an cn as' cs' m) (e : s = s') : OpenT w base B s' af cf an cn as' cs' m := e ▸ h

theorem results_docs2 {fn : Func} {r k j : Nat} (h : fn.results = #[.cell r 25, .tmp k, .tmp j]) (tmps : Array Value) (w : World) {N : Nat} {a b c d e x y : Value} (ht : tmps.getD r undef = .pointer (some ⟨N, 0, none⟩)) (hx : tmps.getD k undef = x) (hy : tmps.getD j undef = y)
    (hc : w.heap[N]? = some (.cells #[a, b, c, d, e] 25)) : (results fn tmps).run Try.prog w = .ok (.tuple #[.agg #[a, b, c, d, e], x, y]) w := by
  have c0 := blk_cell hc 0 a rfl
  have c1 := blk_cell hc 1 b rfl
  have c2 := blk_cell hc 2 c rfl
  have c3 := blk_cell hc 3 d rfl
  have c4 := blk_cell hc 4 e rfl
  have ht' : tmps[r]?.getD undef = .pointer (some ⟨N, 0, none⟩) := by simpa using ht
  have hx' : tmps[k]?.getD undef = x := by simpa using hx
  have hy' : tmps[j]?.getD undef = y := by simpa using hy
  simp only [results, h]
  simp [ht', hx', hy', go_sem, c0, c1, c2, c3, c4]

/-- What comes back through a state's own block. -/
theorem results_docs {fn : Func} (h : fn.results = #[.cell 2 25]) (tmps : Array Value) (w : World) {N : Nat} {a b c d e : Value} (ht : tmps.getD 2 undef = .pointer (some ⟨N, 0, none⟩))
    (hc : w.heap[N]? = some (.cells #[a, b, c, d, e] 25)) : (results fn tmps).run Try.prog w = .ok (.agg #[a, b, c, d, e]) w := by
  have c0 := blk_cell hc 0 a rfl
  have c1 := blk_cell hc 1 b rfl
  have c2 := blk_cell hc 2 c rfl
  have c3 := blk_cell hc 3 d rfl
  have c4 := blk_cell hc 4 e rfl
  have ht' : tmps[2]?.getD undef = .pointer (some ⟨N, 0, none⟩) := by simpa using ht
  simp only [results, h]
  simp [ht', go_sem, c0, c1, c2, c3, c4]

theorem OwnU.laid {w : World} {base : Nat} {s : St} {a b c d e : Value} (h : OwnU w base (.agg #[a, b, c, d, e]) s) : OwnT (w.alloc (.cells #[a, b, c, d, e] 25)) base w.heap.size s := by
  obtain ⟨vf, vn, vs, m, ev, hm, of, on, os, hap, hi1, hi2⟩ := h
  simp at ev
  obtain ⟨rfl, rfl, rfl, rfl, rfl⟩ := ev
  have u := up_al (Below.refl w.heap.size w) (.cells #[.int .i64 s.cap, b, c, d, .int .i64 s.next] 25)
  exact ⟨trivial, _, _, _, m, blk_new w _, hm, of.up u, on.up u, os.up u, hap, hi1, hi2⟩

theorem OwnT.shape {w : World} {base B : Nat} {s : St} (h : OwnT w base B s) : ∃ af nf cf an nn cn as' ns cs', w.heap[B]? = some (.cells #[.int .i64 s.cap, .slice af nf cf, .slice an nn cn, .slice as' ns cs', .int .i64 s.next] 25) ∧ OwnU w base (.agg #[.int .i64 s.cap, .slice af nf cf, .slice an nn cn, .slice as' ns cs', .int .i64 s.next]) s := by
  obtain ⟨vf, vn, vs, hb, ov⟩ := h.take
  obtain ⟨a4, n4, c4, a5, n5, c5, a7, n7, c7, ev4⟩ := ov.shape
  simp at ev4
  obtain ⟨rfl, rfl, rfl⟩ := ev4
  exact ⟨_, _, _, _, _, _, _, _, _, hb, ov⟩

theorem OwnT.lt {w : World} {base B : Nat} {s : St} (h : OwnT w base B s) : B < w.heap.size := by
  obtain ⟨_, _, _, _, _, hb, _⟩ := h
  exact blk_lt hb

/-- A state is not felt where other, elder memory is written. -/
theorem OwnT.keep {w w' : World} {base B : Nat} {s : St} {r : Option Nat} (h : OwnT w base B s) (hg : w.grownBy w' r) (hr : ∀ k, r = some k → k < base ∧ k ≠ B) : OwnT w' base B s := by
  obtain ⟨h0, vf, vn, vs, m, hb, hm, of, on, os, hap, hi1, hi2⟩ := h
  have ne : ∀ {e sz : Nat} {v : Value} {n : Nat} {xs : List Value}, w.ownsRow base e sz v n xs → v.ownBlock = none ∨ v.ownBlock ≠ r := by
    intro e sz v n xs ho
    cases hv : v.ownBlock with
    | none => exact .inl rfl
    | some g =>
      refine .inr fun q => ?_
      have := (ho.lt g hv).1
      have := (hr g q.symm).1
      omega
  refine ⟨h0, vf, vn, vs, m, blk_grown hb hg (fun q => (hr B q.symm).2 rfl), hm, of.far hg (ne of.1.2) (fun y hy => ne (of.2.1 y hy).1), on.far hg (ne on.2.2), os.far hg (ne os.2.2), hap, hi1, hi2⟩
end Go.Proofs.Ytoceddpjkodfkaa

/- The document's Copied and Own. -/
namespace Go.Proofs.Ytoceddpjkodfkaa
open Go.RowKit
set_option linter.unusedVariables false
set_option linter.unusedSimpArgs false

theorem OpenT.addRow {w w1 : World} {base B : Nat} {s : St} {af : Option Addr} {cf : Nat} {an : Option Addr} {cn : Nat} {as' : Option Addr} {cs' : Nat} {m : List FRow} (h : OpenT w base B s af cf an cn as' cs' m) (hbase : base ≤ w.heap.size) {v' : Value} (y : FRow) (hy : OwnB w base y.1 y.2.2.1) (hok : okRow y) (hya : ∀ z ∈ m, Apart z.1 y.1)
    (hg : w.grownBy w1 (Value.ownBlock (.slice af m.length cf))) (ho : OwnR w1 base 86 3 v' (m.map frow ++ [frow y])) :
    w1.heap[B]? = some (.cells #[.int .i64 s.cap, .slice af m.length cf, .slice an s.names.length cn, .slice as' s.safe.length cs', .int .i64 s.next] 25) ∧ OwnT (w1.setCell ⟨B, 1, none⟩ v') base B { s with files := s.files ++ [y.2] } ∧ Beside base B w (w1.setCell ⟨B, 1, none⟩ v') := by
  obtain ⟨hB, hb, hm, of, on, os, hap, hi1, hi2⟩ := h
  have nB : some B ≠ Value.ownBlock (.slice af m.length cf) := by
    have := own_blk_ne of.1.2 hb (by decide)
    rcases this with q | q
    · rw [q]; simp
    · exact fun e => q e.symm
  have b1 := blk_grown hb hg nB
  have on1 := on.far hg (own_own_ne on.2.2 of.1.2 (by decide))
  have os1 := os.far hg (own_own_ne os.2.2 of.1.2 (by decide))
  have g5 := grown_set w1 ⟨B, 1, none⟩ v'
  have ho5 := ho.far g5 (own_blk_ne ho.2 b1 (by decide))
  refine ⟨b1, ⟨hB, _, _, _, m ++ [y], blk_set b1 1 v', ?_, ⟨?_, ?_, ?_⟩, ?_, ?_, hap, hi1, hi2⟩, ?_⟩
  · simp [hm]
  · rw [List.map_append]
    exact ho5
  · intro z hz
    rcases List.mem_append.1 hz with q | q
    · have h1 := of.2.1 z q
      have h2 := h1.1.far hg (own_own_ne h1.1 of.1.2 (by decide))
      exact ⟨h2.far g5 (own_blk_ne h2 b1 (by decide)), h1.2⟩
    · simp at q
      subst q
      have h2 := hy.far hg (own_own_ne hy of.1.2 (by decide))
      exact ⟨h2.far g5 (own_blk_ne h2 b1 (by decide)), hok⟩
  · rw [List.pairwise_append]
    refine ⟨of.2.2, by simp, fun a ha b hb => ?_⟩
    simp at hb
    subst hb
    exact hya a ha
  · exact on1.far g5 (own_blk_ne on1.2.2 b1 (by decide))
  · exact os1.far g5 (own_blk_ne os1.2.2 b1 (by decide))
  · refine ((Beside.refl base B w).grown hg hbase (fun k hk => .inl (of.1.2.lt k hk).1)).grown g5 (Nat.le_trans hbase hg.size) (fun k hk => ?_)
    injection hk with hk
    rw [← hk]
    exact .inr rfl

set_option maxHeartbeats 400000 in
theorem refCopied_any (l : List Int) (v : Value) (w : World) (hv : Octs w v l) (hl : l.length ≤ 140737488355328) :
    Calls Try.prog 48 #[v] w fun e w' => ∃ v', e = .returned v' ∧ OwnB w' w.heap.size v' l ∧ Below w.heap.size w w' := by
  have HV : Hid (Octs w v l) := hv
  clear hv
  go_enter Try.func48, Try.ntmps48
  go_wp2_with (at_builtin; refine wpList_append_octs _ rfl _ _ rfl w.heap.size _ [] rfl (World.ownsRow_nil _ _ _ _) _ l rfl HV.out ?c1 (Nat.le_refl _) ?_)
  case c1 => simpa using hl
  intro v' w' hown hg
  go_wp2
  go_ret
  refine ⟨_, rfl, hown, ?_⟩
  exact (Below.refl _ _).grown hg (Nat.le_refl _) (by simp [Value.ownBlock])

theorem OwnU.nofiles {w : World} {base : Nat} {s : St} {vn vs : Value} (hn : OwnN w base 88 vn s.names) (hs : OwnN w base 88 vs s.safe) (ha : Apart vn vs) (h1 : In64 s.cap) (h2 : In64 s.next) : OwnU w base (.agg #[.int .i64 s.cap, .slice none 0 0, vn, vs, .int .i64 s.next]) { s with files := [] } :=
  ⟨_, _, _, [], rfl, rfl, ⟨OwnR.nil _ _ _ _, (fun y hy => by cases hy), List.Pairwise.nil⟩, hn, hs, ha, h1, h2⟩

theorem OwnU.put2 {w : World} {base : Nat} {s : St} {a b c d e : Value} (h : OwnU w base (.agg #[a, b, c, d, e]) s) {N : Nat} {x0 x1 x2 x3 x4 : Value} (hb : w.heap[N]? = some (.cells #[x0, x1, x2, x3, x4] 25)) :
    OwnT (((((w.setCell ⟨N, 0, none⟩ a).setCell ⟨N, 1, none⟩ b).setCell ⟨N, 2, none⟩ c).setCell ⟨N, 3, none⟩ d).setCell ⟨N, 4, none⟩ e) base N s ∧ w.grownBy (((((w.setCell ⟨N, 0, none⟩ a).setCell ⟨N, 1, none⟩ b).setCell ⟨N, 2, none⟩ c).setCell ⟨N, 3, none⟩ d).setCell ⟨N, 4, none⟩ e) (some N) :=
  ⟨(h.put hb).1, set5_grown w N a b c d e⟩

set_option maxHeartbeats 8000000 in
set_option maxRecDepth 4000 in
theorem refOwn_any (s : St) (v : Value) (w : World) (hv : StW w v s) (hl1 : s.files.length ≤ 256) (hl2 : s.names.length ≤ 256) (hl3 : s.safe.length ≤ 256) :
    Calls Try.prog 34 #[v] w fun e w' => ∃ v', e = .returned v' ∧ OwnU w' w.heap.size v' s ∧ Below w.heap.size w w' := by
  obtain ⟨af, cf, an, cn, as', cs', rfl⟩ := hv.form
  obtain ⟨vf, vn, vs, ev, hf, hn, hs, hi1, hi2⟩ := hv
  simp at ev
  obtain ⟨rfl, rfl, rfl⟩ := ev
  obtain ⟨wx, hwx⟩ : ∃ wx, wx = (w.alloc (.cells #[.int .i64 s.cap, .slice af s.files.length cf, .slice an s.names.length cn, .slice as' s.safe.length cs', .int .i64 s.next] 25)).alloc (.cells #[.int .i64 0, .slice none 0 0, .slice none 0 0, .slice none 0 0, .int .i64 0] 25) := ⟨_, rfl⟩
  have HX : Hid ((w.alloc (.cells #[.int .i64 s.cap, .slice af s.files.length cf, .slice an s.names.length cn, .slice as' s.safe.length cs', .int .i64 s.next] 25)).alloc (.cells #[.int .i64 0, .slice none 0 0, .slice none 0 0, .slice none 0 0, .int .i64 0] 25) = wx) := hwx.symm
  have b0 : wx.heap[w.heap.size]? = some (.cells #[.int .i64 s.cap, .slice af s.files.length cf, .slice an s.names.length cn, .slice as' s.safe.length cs', .int .i64 s.next] 25) := by rw [hwx]; exact blk_two0 w _ _
  have b1 : wx.heap[w.heap.size + 1]? = some (.cells #[.int .i64 0, .slice none 0 0, .slice none 0 0, .slice none 0 0, .int .i64 0] 25) := by rw [hwx]; exact blk_two1 w _ _
  have up : Hid (Below w.heap.size w wx) := by rw [hwx]; exact up_al (up_al (Below.refl _ _) _) _
  have hsz : Hid (wx.heap.size = w.heap.size + 2) := by rw [hwx]; simp [Hid]
  have HB : Hid (wx.heap[w.heap.size]? = some (.cells #[.int .i64 s.cap, .slice af s.files.length cf, .slice an s.names.length cn, .slice as' s.safe.length cs', .int .i64 s.next] 25) ∧ wx.heap[w.heap.size + 1]? = some (.cells #[.int .i64 0, .slice none 0 0, .slice none 0 0, .slice none 0 0, .int .i64 0] 25)) := ⟨b0, b1⟩
  have HI : Hid (In64 s.cap ∧ In64 s.next) := ⟨hi1, hi2⟩
  have HF : Hid (FilesW wx (.slice af s.files.length cf) s.files) := hf.up up.out
  have HNm : Hid (NamesW wx (.slice an s.names.length cn) s.names ∧ s.names.length ≤ 256) := ⟨hn.up up.out, hl2⟩
  have HSf : Hid (NamesW wx (.slice as' s.safe.length cs') s.safe ∧ s.safe.length ≤ 256) := ⟨hs.up up.out, hl3⟩
  have HL : Hid (s.files.length ≤ 256) := hl1
  have HC : Hid (∀ (l : List (List Int × Int)) (a : Option Addr) (c : Nat) (X : World) (T : Nat), NamesW wx (.slice a l.length c) l ∧ l.length ≤ 256 → Below wx.heap.size wx X → X.heap[T]? = some (.cells #[.int .i64 0, .slice none 0 0, .slice none 0 0, .slice none 0 0, .int .i64 0] 25) → Calls Try.prog 38 #[.slice a l.length c] X fun e w' => ∃ a2 c2, e = .returned (.slice a2 l.length c2) ∧ ¬ w'.heap.size = w.heap.size ∧ ¬ w.heap.size = w'.heap.size ∧ w'.cell? ⟨w.heap.size, 0, none⟩ = some (.int .i64 s.cap) ∧ w'.cell? ⟨w.heap.size, 1, none⟩ = some (.slice af s.files.length cf) ∧ w'.cell? ⟨w.heap.size, 2, none⟩ = some (.slice an s.names.length cn) ∧ w'.cell? ⟨w.heap.size, 3, none⟩ = some (.slice as' s.safe.length cs') ∧ w'.cell? ⟨w.heap.size, 4, none⟩ = some (.int .i64 s.next) ∧ w'.cell? ⟨T, 0, none⟩ = some (.int .i64 0) ∧ w'.cell? ⟨T, 1, none⟩ = some (.slice none 0 0) ∧ w'.cell? ⟨T, 2, none⟩ = some (.slice none 0 0) ∧ w'.cell? ⟨T, 3, none⟩ = some (.slice none 0 0) ∧ w'.cell? ⟨T, 4, none⟩ = some (.int .i64 0) ∧ w'.frozen? ⟨T, 0, none⟩ = false ∧ w'.frozen? ⟨T, 1, none⟩ = false ∧ w'.frozen? ⟨T, 2, none⟩ = false ∧ w'.frozen? ⟨T, 3, none⟩ = false ∧ w'.frozen? ⟨T, 4, none⟩ = false ∧ Hid (OwnN w' X.heap.size 88 (.slice a2 l.length c2) l ∧ Below X.heap.size X w' ∧ Below wx.heap.size wx w' ∧ w'.heap[T]? = some (.cells #[.int .i64 0, .slice none 0 0, .slice none 0 0, .slice none 0 0, .int .i64 0] 25) ∧ wx.heap.size ≤ X.heap.size)) := by
    intro l a c X T hl hX hT
    refine (refOwnNames_any l _ X (hl.1.up hX) (by omega)).mono ?_
    rintro e w' ⟨v', rfl, on, hu⟩
    obtain ⟨a2, c2, e2, _, _⟩ := (NamesW.own on).len
    subst e2
    have k0 := blk_up HB.out.1 (up_trans hX hu)
    have k1 := blk_up hT hu
    have hlt := blk_lt k0
    exact ⟨a2, c2, rfl, (by omega), (by omega), blk_cell k0 0 _ rfl, blk_cell k0 1 _ rfl, blk_cell k0 2 _ rfl, blk_cell k0 3 _ rfl, blk_cell k0 4 _ rfl, blk_cell k1 0 _ rfl, blk_cell k1 1 _ rfl, blk_cell k1 2 _ rfl, blk_cell k1 3 _ rfl, blk_cell k1 4 _ rfl, blk_frozen k1 0, blk_frozen k1 1, blk_frozen k1 2, blk_frozen k1 3, blk_frozen k1 4, on, hu, up_trans hX hu, k1, hX.size⟩
  have U0 : Hid (Below wx.heap.size wx wx.drew) := up_dr (Below.refl _ _)
  have U1 : Hid (Below wx.heap.size wx (wx.alloc (.cells #[.int .i64 0, .slice none 0 0, .slice none 0 0, .slice none 0 0, .int .i64 0] 25)).drew) := up_dr (up_al (Below.refl _ _) _)
  have T0 : Hid (wx.drew.heap[w.heap.size + 1]? = some (.cells #[.int .i64 0, .slice none 0 0, .slice none 0 0, .slice none 0 0, .int .i64 0] 25)) := blk_up HB.out.2 U0.out
  have T1 : Hid ((wx.alloc (.cells #[.int .i64 0, .slice none 0 0, .slice none 0 0, .slice none 0 0, .int .i64 0] 25)).drew.heap[wx.heap.size]? = some (.cells #[.int .i64 0, .slice none 0 0, .slice none 0 0, .slice none 0 0, .int .i64 0] 25)) := blk_up (blk_new wx (.cells #[.int .i64 0, .slice none 0 0, .slice none 0 0, .slice none 0 0, .int .i64 0] 25)) (up_dr (Below.refl _ _))
  clear hwx hf hn hs hi1 hi2 hl1 hl2 hl3
  go_enter Try.func34, Try.ntmps34
  go_upto_region 1 with fail
  rw [HX.out]
  clear HX
  obtain ⟨q0, q1, q2, q3, q4⟩ := box_cells b0
  clear b0 b1
  have z1 : ¬ wx.heap.size = w.heap.size := by have := hsz.out; omega
  have z2 : ¬ w.heap.size = wx.heap.size := by have := hsz.out; omega
  have d0 := fun o => ((up_dr (up_al (Below.refl wx.heap.size wx) o)).cell (World.block_lt_of_cell? _ _ q0)).trans q0
  have d1 := fun o => ((up_dr (up_al (Below.refl wx.heap.size wx) o)).cell (World.block_lt_of_cell? _ _ q1)).trans q1
  have d2 := fun o => ((up_dr (up_al (Below.refl wx.heap.size wx) o)).cell (World.block_lt_of_cell? _ _ q2)).trans q2
  have d3 := fun o => ((up_dr (up_al (Below.refl wx.heap.size wx) o)).cell (World.block_lt_of_cell? _ _ q3)).trans q3
  have d4 := fun o => ((up_dr (up_al (Below.refl wx.heap.size wx) o)).cell (World.block_lt_of_cell? _ _ q4)).trans q4
  go_cut [3] from 6 to 16 (fun s3 wy => ∃ T, s3 = .pointer (some ⟨T, 0, none⟩) ∧ Hid (OwnT wy wx.heap.size T { s with files := [] } ∧ wx.heap.size ≤ T ∧ Below wx.heap.size wx wy))
  case first =>
    go_region_held3 (fun w' => w'.cell? ⟨w.heap.size, 0, none⟩ = some (.int .i64 s.cap) ∧ w'.cell? ⟨w.heap.size, 1, none⟩ = some (.slice af s.files.length cf) ∧ w'.cell? ⟨w.heap.size, 2, none⟩ = some (.slice an s.names.length cn) ∧ w'.cell? ⟨w.heap.size, 3, none⟩ = some (.slice as' s.safe.length cs') ∧ w'.cell? ⟨w.heap.size, 4, none⟩ = some (.int .i64 s.next)) (first | with_reducible exact ⟨y0, y1, y2, y3, y4⟩ | with_reducible exact ⟨q0, q1, q2, q3, q4⟩ | with_reducible exact ⟨d0 _, d1 _, d2 _, d3 _, d4 _⟩ | with_reducible exact ⟨Lib.cell?_alloc_marked _ y0, Lib.cell?_alloc_marked _ y1, Lib.cell?_alloc_marked _ y2, Lib.cell?_alloc_marked _ y3, Lib.cell?_alloc_marked _ y4⟩ | with_reducible exact ⟨Lib.cell?_alloc_marked _ q0, Lib.cell?_alloc_marked _ q1, Lib.cell?_alloc_marked _ q2, Lib.cell?_alloc_marked _ q3, Lib.cell?_alloc_marked _ q4⟩ | (simp [go_sem, y0, y1, y2, y3, y4, n1, n2]; done) | (simp [go_sem, y0, y1, y2, y3, y4, z1, z2]; done) | (simp [go_sem, y0, y1, y2, y3, y4, n3, n4]; done) | (simp [go_sem, q0, q1, q2, q3, q4]; done)) (first | (go_at_call 38; with_reducible refine (HC.out s.names an cn _ _ HNm.out U0.out T0.out).mono ?_; rintro e w1 ⟨a2, c2, rfl, n1, n2, y0, y1, y2, y3, y4, t0, t1, t2, t3, t4, f0, f1, f2, f3, f4, on⟩) | (go_at_call 38; with_reducible refine (HC.out s.names an cn _ _ HNm.out U1.out T1.out).mono ?_; rintro e w1 ⟨a2, c2, rfl, n1, n2, y0, y1, y2, y3, y4, t0, t1, t2, t3, t4, f0, f1, f2, f3, f4, on⟩) | (go_at_call 38; with_reducible refine (HC.out s.safe as' cs' _ _ HSf.out on.out.2.2.1 on.out.2.2.2.1).mono ?_; rintro e w2 ⟨a3, c3, rfl, n3, n4, y0, y1, y2, y3, y4, t0, t1, t2, t3, t4, f0, f1, f2, f3, f4, os⟩) | (go_at_call 38; with_reducible refine (HC.out s.safe as' cs' (w1.alloc (.cells #[.int .i64 0, .slice none 0 0, .slice none 0 0, .slice none 0 0, .int .i64 0] 25)) w1.heap.size HSf.out (up_al on.out.2.2.1 _) (blk_new _ _)).mono ?_; rintro e w2 ⟨a3, c3, rfl, n3, n4, y0, y1, y2, y3, y4, t0, t1, t2, t3, t4, f0, f1, f2, f3, f4, os⟩))
    all_goals
      have HU : Hid (OwnU w2 wx.heap.size (.agg #[.int .i64 s.cap, .slice none 0 0, .slice a2 s.names.length c2, .slice a3 s.safe.length c3, .int .i64 s.next]) { s with files := [] }) := by
        have kn := on.out.1.mono on.out.2.2.2.2
        have ks := os.out.1.mono os.out.2.2.2.2
        have kn2 : OwnN w2 wx.heap.size 88 (.slice a2 s.names.length c2) s.names := by
          first | exact kn.up os.out.2.1 | exact (kn.up (up_al (Below.refl _ _) _)).up os.out.2.1
        have ap : Apart (.slice a2 s.names.length c2) (.slice a3 s.safe.length c3) := by
          first | exact apart_new on.out.1.2.2 os.out.1.2.2 | exact apart_new on.out.1.2.2 (os.out.1.mono (up_al (Below.refl w1.heap.size w1) _).size).2.2
        exact OwnU.nofiles kn2 ks ap HI.out.1 HI.out.2
      have HBw : Hid (Below wx.heap.size wx w2) := os.out.2.2.1
      have HP := HU.out.put2 os.out.2.2.2.1
      have HL1 : Hid (wx.heap.size ≤ w1.heap.size) := on.out.2.2.1.size
      have HLd := HU.out.laid
      have HLs := HBw.out.size
      have HLu := fun o => up_al HBw.out o
      have HPb := fun h => HBw.out.grown HP.2 HLs h
      have HPo := HP.1
      clear HP
      go_wp2_with fail
      go_meet
      case rel =>
        refine ⟨_, rfl, ?_⟩
        unfold Hid
        first | with_reducible exact ⟨HLd, HLs, HLu _⟩ | with_reducible exact ⟨HPo, HL1.out, HPb (fun j hj => by injection hj with hj; rw [← hj]; exact HL1.out)⟩ | with_reducible exact ⟨HPo, Nat.le_refl _, HPb (fun j hj => by injection hj with hj; rw [← hj]; exact Nat.le_refl _)⟩
  case rest =>
  obtain ⟨T, rfl, HT⟩ := hcut
  clear q0 q1 q2 q3 q4 d0 d1 d2 d3 d4 HC U0 U1 T0 T1 HNm HSf
  have HTw : Hid (wx.heap.size ≤ T) := HT.out.2.1
  go_wp2_with fail
  go_loopw [4] (fun i wr => ∃ k : Nat, k ≤ s.files.length ∧ i = .int .i64 k ∧ Hid (OwnT wr wx.heap.size T { s with files := s.files.take k } ∧ Below wx.heap.size wx wr)) (fun i _ => s.files.length - (intOf i).toNat)
  case atStart => exact ⟨0, Nat.zero_le _, rfl, HT.out.1, HT.out.2.2⟩
  case round =>
    obtain ⟨k, hk, rfl, HO⟩ := hrel
    obtain ⟨q0, q1, q2, q3, q4⟩ := box_cells (blk_up HB.out.1 HO.out.2)
    by_cases hlt : k < s.files.length
    · have hlt' : (k : Int) < (s.files.length : Int) := by omega
      obtain ⟨b, off, cap', u, e, _, _, c0, c1, c2, ho, hln, hi1, hi2⟩ := (HF.out.up HO.out.2).at k hlt
      simp at e
      obtain ⟨rfl, rfl⟩ := e
      have HTk : Hid (s.files.take (k + 1) = s.files.take k ++ [s.files.getD k (0, [], 0)]) := take_snoc s.files k _ hlt
      generalize s.files.getD k (0, [], 0) = y at *
      obtain ⟨yi, yd, ys⟩ := y
      simp only at c0 c1 c2 ho hln hi1 hi2
      obtain ⟨ad, cd, eu, _⟩ := ho.slice
      subst eu
      have HY : Hid (okRow (.slice none 0 0, yi, yd, ys)) := ⟨ho.1, hln, hi1, hi2⟩
      have HOc : Hid (Octs wr (.slice ad yd.length cd) yd) := ho
      obtain ⟨dn, hdn⟩ : ∃ dn, dn = yd.length := ⟨_, rfl⟩
      have HDn : Hid (dn = yd.length) := hdn
      rw [← hdn] at c1
      obtain ⟨af2, cf2, an2, cn2, as2, cs2, m, OT⟩ := HO.out.1.open
      have HML : Hid (m.length = k) := by
        have := congrArg List.length OT.2.2.1
        simp only [List.length_map, List.length_take] at this
        unfold Hid
        omega
      obtain ⟨kk, hkk⟩ : ∃ kk, kk = m.length := ⟨_, rfl⟩
      have HKk : Hid (kk = m.length) := hkk
      obtain ⟨wq, hwq⟩ : ∃ wq, wq = wr.alloc (.cells #[.int .i64 yi, .slice ad dn cd, .int .i64 ys] 86) := ⟨_, rfl⟩
      have HWq : Hid (wr.alloc (.cells #[.int .i64 yi, .slice ad dn cd, .int .i64 ys] 86) = wq) := hwq.symm
      have uq : Hid (Below wr.heap.size wr wq) := by rw [hwq]; exact up_alloc _ _
      have bq : wq.heap[wr.heap.size]? = some (.cells #[.int .i64 yi, .slice ad dn cd, .int .i64 ys] 86) := by rw [hwq]; exact blk_new _ _
      have HBq : Hid (wq.heap[wr.heap.size]? = some (.cells #[.int .i64 yi, .slice ad dn cd, .int .i64 ys] 86)) := bq
      have OQ : Hid (OpenT wq wx.heap.size T { s with files := s.files.take k } af2 cf2 an2 cn2 as2 cs2 m) := OT.up uq.out
      have HLt : Hid (∀ g, Value.ownBlock (.slice af2 m.length cf2) = some g → g < wr.heap.size) := fun g hg => (OT.2.2.2.1.1.2.lt g hg).2
      have HC2 : Hid (∀ X, Below wq.heap.size wq X → Calls Try.prog 48 #[.slice ad dn cd] X fun e w' => ∃ a2 cc, e = .returned (.slice a2 dn cc) ∧ w'.cell? ⟨T, 1, none⟩ = some (.slice af2 kk cf2) ∧ w'.cell? ⟨wr.heap.size, 0, none⟩ = some (.int .i64 yi) ∧ w'.cell? ⟨wr.heap.size, 1, none⟩ = some (.slice ad dn cd) ∧ w'.cell? ⟨wr.heap.size, 2, none⟩ = some (.int .i64 ys) ∧
          Hid (OpenT w' wx.heap.size T { s with files := s.files.take k } af2 cf2 an2 cn2 as2 cs2 m ∧ OwnB w' wq.heap.size (.slice a2 dn cc) yd ∧ Below wq.heap.size wq w')) := by
        intro X hX
        have hoX := HOc.out.up (up_trans uq.out hX)
        rw [← HDn.out] at hoX
        refine (refCopied_any yd _ X hoX HY.out.2.1).mono ?_
        rintro e w' ⟨v', rfl, ob, hu⟩
        obtain ⟨a2, cc, ev, _⟩ := (Octs.own ob HOc.out.1).slice
        rw [← HDn.out] at ev
        subst ev
        have uu := up_trans hX hu
        have O2 := OQ.out.up uu
        have k0 := blk_up HBq.out uu
        have k1 := blk_cell O2.2.1 1 _ rfl
        rw [← HKk.out] at k1
        exact ⟨a2, cc, rfl, k1, blk_cell k0 0 _ rfl, blk_cell k0 1 _ rfl, blk_cell k0 2 _ rfl, O2, ob.mono hX.size, uu⟩
      have HG : Hid (∀ (w' w6 : World) (o : Obj) (v6 : Value) (a2 : Option Addr) (cc : Nat), OpenT w' wx.heap.size T { s with files := s.files.take k } af2 cf2 an2 cn2 as2 cs2 m ∧ OwnB w' wq.heap.size (.slice a2 dn cc) yd ∧ Below wq.heap.size wq w' → (w'.alloc o).grownBy w6 (Value.ownBlock (.slice af2 kk cf2)) → OwnR w6 wx.heap.size 86 3 v6 (m.map frow ++ [[.int .i64 yi, .slice a2 dn cc, .int .i64 ys]]) →
          w6.cell? ⟨T, 1, none⟩ = some (.slice af2 kk cf2) ∧ w6.frozen? ⟨T, 1, none⟩ = false ∧ w6.cell? ⟨wr.heap.size, 0, none⟩ = some (.int .i64 yi) ∧ w6.cell? ⟨wr.heap.size, 1, none⟩ = some (.slice ad dn cd) ∧ w6.cell? ⟨wr.heap.size, 2, none⟩ = some (.int .i64 ys) ∧ Hid (OwnT (w6.setCell ⟨T, 1, none⟩ v6) wx.heap.size T { s with files := s.files.take (k + 1) } ∧ Below wx.heap.size wx (w6.setCell ⟨T, 1, none⟩ v6))) := by
        intro w' w6 o v6 a2 cc hs hg ho6
        rw [HKk.out] at hg ⊢
        have uo := up_al (Below.refl w'.heap.size w') o
        have O3 := hs.1.up uo
        have hwx : wx.heap.size ≤ wq.heap.size := Nat.le_trans HO.out.2.size uq.out.size
        have hwy : wx.heap.size ≤ (w'.alloc o).heap.size := Nat.le_trans (Nat.le_trans hwx hs.2.2.size) uo.size
        have z := O3.addRow hwy (y := (.slice a2 dn cc, yi, yd, ys)) (hs.2.1.mono hwx |>.up uo) HY.out (fun q hq => apart_new ((OQ.out.2.2.2.1.2.1 q hq).1) hs.2.1) hg ho6
        have hne : some wr.heap.size ≠ Value.ownBlock (.slice af2 m.length cf2) := by
          intro q
          have := HLt.out _ q.symm
          omega
        have k0 := blk_grown (blk_up (blk_up HBq.out hs.2.2) uo) hg hne
        have hb := z.2.2.below HTw.out
        refine ⟨blk_cell z.1 1 _ rfl, blk_frozen z.1 1, blk_cell k0 0 _ rfl, blk_cell k0 1 _ rfl, blk_cell k0 2 _ rfl, ?_, ?_⟩
        · rw [HTk.out]
          exact z.2.1
        · exact (up_trans HO.out.2 (up_trans uq.out (up_trans hs.2.2 uo))).trans hb
      have HA2 : Hid (∀ (w' : World) a2 cc, Rws 3 (w'.alloc (.cells #[.int .i64 yi, .slice a2 dn cc, .int .i64 ys] 86)) (.slice (some ⟨w'.heap.size, 0, none⟩) 1 1) [[.int .i64 yi, .slice a2 dn cc, .int .i64 ys]]) := by
        intro w' a2 cc
        have := Rws.made (sz := 3) w' 86 [[.int .i64 yi, .slice a2 dn cc, .int .i64 ys]] (by intro cs hcs; simp at hcs; subst hcs; rfl) (by simp [maxLen])
        simpa using this
      have HA1 : Hid (∀ (w' : World) (o : Obj), OpenT w' wx.heap.size T { s with files := s.files.take k } af2 cf2 an2 cn2 as2 cs2 m → OwnR (w'.alloc o) wx.heap.size 86 3 (.slice af2 kk cf2) (m.map frow)) := by
        intro w' o h
        rw [HKk.out]
        exact (h.up (up_al (Below.refl _ _) o)).2.2.2.1.1
      have HA3 : Hid (∀ a2 cc, ∀ cs ∈ [[Value.int .i64 yi, .slice a2 dn cc, .int .i64 ys]], ∀ u ∈ cs, u.oneCell' = true) := by
        intro a2 cc cs hcs u hu
        simp at hcs
        subst hcs
        simp at hu
        rcases hu with rfl | rfl | rfl <;> rfl
      have HA4 : Hid ((((m.map frow).length + 1) + ((m.map frow).length + 1) / 4 + 192) * 40 ≤ 281474976710656 ∧ (m.map frow).length + 1 ≤ maxLen) := by
        rw [List.length_map, HML.out]
        have h1 := HL.out
        unfold maxLen
        constructor <;> omega
      have HSh : Hid (∀ (w6 : World) (v6 : Value) (a2 : Option Addr) (cc : Nat), OwnR w6 wx.heap.size 86 3 v6 (m.map frow ++ [[.int .i64 yi, .slice a2 dn cc, .int .i64 ys]]) → ∃ a c, v6 = .slice a (kk + 1) c) := by
        intro w6 v6 a2 cc h
        obtain ⟨a, c, e, _, _⟩ := (Rws.own h).len
        rw [List.length_append, List.length_map, ← HKk.out] at e
        exact ⟨a, c, e⟩
      have HA5 : Hid (∀ (w' : World) (o : Obj), Below wq.heap.size wq w' → wx.heap.size ≤ (w'.alloc o).heap.size) := by
        intro w' o h
        have h1 := h.size
        have h2 := uq.out.size
        have h3 := HO.out.2.size
        simp
        omega
      have tq : wq.cell? ⟨T, 1, none⟩ = some (.slice af2 kk cf2) := by
        rw [HKk.out]
        exact blk_cell OQ.out.2.1 1 _ rfl
      have r0 := blk_cell bq 0 _ rfl
      have r1 := blk_cell bq 1 _ rfl
      have r2 := blk_cell bq 2 _ rfl
      have UQ : Hid (Below wq.heap.size wq wq.drew) := up_dr (Below.refl _ _)
      have hle : (k : Int) + 1 ≤ 256 := by have := HL.out; omega
      have nT : ¬ T = wr.heap.size := by have := HO.out.1.lt; omega
      have nT2 : ¬ wr.heap.size = T := fun e => nT e.symm
      clear hkk hwq bq ho hln hi1 hi2 hdn OT
      go_upto_region 6 with fail
      rw [HWq.out]
      clear HWq q0 q1 q2 q3 q4 c0 c1 c2
      refine wp_region_held_drew (S := (fun w' => w'.cell? ⟨wr.heap.size, 0, none⟩ = some (.int .i64 yi) ∧ w'.cell? ⟨wr.heap.size, 1, none⟩ = some (.slice ad dn cd) ∧ w'.cell? ⟨wr.heap.size, 2, none⟩ = some (.int .i64 ys))) (by kernel_rfl) (by (try dsimp only); first | with_reducible exact ⟨y2, y3, y4⟩ | with_reducible exact ⟨t2, t3, t4⟩ | with_reducible exact ⟨m2 _, m3 _, m4 _⟩ | (simp [go_sem, r0, r1, r2]; done) | (simp [go_sem, t2, t3, t4, nT, nT2]; done)) (fun hHeld => ?_)
      refine wpAnyH_take (i := 0) (v := ?_) rfl (by kernel_rfl) (by kernel_rfl) (by kernel_rfl) (fun _ _ _ h => h) (Or.inl ⟨by kernel_rfl, ?_⟩) (by assumption) ?_
      rotate_left
      focus (intro w hSw; (try dsimp only at hSw); go_simp; (try with_reducible rfl); done)
      try simp only [Act.put, List.getElem_toArray, List.getElem_cons_zero, List.getElem_cons_succ, List.setIfInBounds_toArray, List.set_cons_zero, List.set_cons_succ]
      refine wpAnyH_take (i := 2) (v := ?_) rfl (by kernel_rfl) (by kernel_rfl) (by kernel_rfl) (fun _ _ _ h => h) (Or.inl ⟨by kernel_rfl, ?_⟩) (by assumption) ?_
      rotate_left
      focus (intro w hSw; (try dsimp only at hSw); go_simp; (try with_reducible rfl); done)
      try simp only [Act.put, List.getElem_toArray, List.getElem_cons_zero, List.getElem_cons_succ, List.setIfInBounds_toArray, List.set_cons_zero, List.set_cons_succ]
      refine wpAnyH_take (i := 4) (v := ?_) rfl (by kernel_rfl) (by kernel_rfl) (by kernel_rfl) (fun _ _ _ h => h) (Or.inl ⟨by kernel_rfl, ?_⟩) (by assumption) ?_
      rotate_left
      focus (intro w hSw; (try dsimp only at hSw); go_simp; (try with_reducible rfl); done)
      try simp only [Act.put, List.getElem_toArray, List.getElem_cons_zero, List.getElem_cons_succ, List.setIfInBounds_toArray, List.set_cons_zero, List.set_cons_succ]
      refine wpAnyH_take (i := 7) (v := ?_) rfl (by kernel_rfl) (by kernel_rfl) (by kernel_rfl) (fun _ _ _ h => h) (Or.inl ⟨by kernel_rfl, ?_⟩) (by assumption) ?_
      rotate_left
      focus (intro w hSw; (try dsimp only at hSw); go_simp; (try with_reducible rfl); done)
      try simp only [Act.put, List.getElem_toArray, List.getElem_cons_zero, List.getElem_cons_succ, List.setIfInBounds_toArray, List.set_cons_zero, List.set_cons_succ]
      refine wpAnyH_take (i := 3) (v := ?_) rfl (by kernel_rfl) (by kernel_rfl) (by kernel_rfl) (fun _ _ _ h => h) (Or.inl ⟨by kernel_rfl, ?_⟩) (by assumption) ?_
      rotate_left
      focus (intro w hSw; (try dsimp only at hSw); go_simp; (try with_reducible rfl); done)
      try simp only [Act.put, List.getElem_toArray, List.getElem_cons_zero, List.getElem_cons_succ, List.setIfInBounds_toArray, List.set_cons_zero, List.set_cons_succ]
      refine wpAnyH_take (i := 5) (v := ?_) rfl (by kernel_rfl) (by kernel_rfl) (by kernel_rfl) (fun _ _ _ h => h) (Or.inl ⟨by kernel_rfl, ?_⟩) (by assumption) ?_
      rotate_left
      focus (intro w hSw; (try dsimp only at hSw); go_simp; (try with_reducible rfl); done)
      try simp only [Act.put, List.getElem_toArray, List.getElem_cons_zero, List.getElem_cons_succ, List.setIfInBounds_toArray, List.set_cons_zero, List.set_cons_succ]
      refine wpAnyH_take (i := 8) (v := ?_) rfl (by kernel_rfl) (by kernel_rfl) (by kernel_rfl) (fun _ _ _ h => h) (Or.inl ⟨by kernel_rfl, ?_⟩) (by assumption) ?_
      rotate_left
      focus (intro w hSw; (try dsimp only at hSw); go_simp; (try with_reducible rfl); done)
      try simp only [Act.put, List.getElem_toArray, List.getElem_cons_zero, List.getElem_cons_succ, List.setIfInBounds_toArray, List.set_cons_zero, List.set_cons_succ]
      refine wpAnyH_ready (rs := [1, 6]) (by kernel_rfl) (by simp) ?_
      refine AllReadyH.cons rfl (fun K hK => ?_) (AllReadyH.cons rfl (fun K hK => ?_) AllReadyH.nil)
      · skip
        go_simp
        refine hK.out _ _ (by (try dsimp only); first | with_reducible exact ⟨y2, y3, y4⟩ | with_reducible exact ⟨t2, t3, t4⟩ | with_reducible exact ⟨m2 _, m3 _, m4 _⟩ | (simp [go_sem, r0, r1, r2]; done) | (simp [go_sem, t2, t3, t4, nT, nT2]; done)) (fun hHeld => ?_)
        clear hK K
        try simp only [Act.put, List.getElem_toArray, List.getElem_cons_zero, List.getElem_cons_succ, List.setIfInBounds_toArray, List.set_cons_zero, List.set_cons_succ]
        refine wpAnyH_ready (rs := [6]) (by kernel_rfl) (by simp) ?_
        refine AllReadyH.cons rfl (fun K hK => ?_) AllReadyH.nil
        go_simp
        refine (HC2.out _ UQ.out).mono ?_
        rintro e w' ⟨a2, cc, rfl, y1, y2, y3, y4, hs⟩
        have m1 := fun o => Lib.cell?_alloc_marked o y1
        have m2 := fun o => Lib.cell?_alloc_marked o y2
        have m3 := fun o => Lib.cell?_alloc_marked o y3
        have m4 := fun o => Lib.cell?_alloc_marked o y4
        go_wp2_with fail
        refine hK.out _ _ (by (try dsimp only); first | with_reducible exact ⟨y2, y3, y4⟩ | with_reducible exact ⟨t2, t3, t4⟩ | with_reducible exact ⟨m2 _, m3 _, m4 _⟩ | (simp [go_sem, r0, r1, r2]; done) | (simp [go_sem, t2, t3, t4, nT, nT2]; done)) (fun hHeld => ?_)
        clear hK K
        try simp only [Act.put, List.getElem_toArray, List.getElem_cons_zero, List.getElem_cons_succ, List.setIfInBounds_toArray, List.set_cons_zero, List.set_cons_succ]
        refine wpAnyH_take (i := 9) (v := ?_) rfl (by kernel_rfl) (by kernel_rfl) (by kernel_rfl) (fun _ _ _ h => h) (Or.inl ⟨by kernel_rfl, ?_⟩) (by assumption) ?_
        rotate_left
        focus (intro w hSw; (try dsimp only at hSw); go_simp; (try with_reducible rfl); done)
        try simp only [Act.put, List.getElem_toArray, List.getElem_cons_zero, List.getElem_cons_succ, List.setIfInBounds_toArray, List.set_cons_zero, List.set_cons_succ]
        refine wpAnyH_ready (rs := [10]) (by kernel_rfl) (by simp) ?_
        refine AllReadyH.cons rfl (fun K hK => ?_) AllReadyH.nil
        go_simp
        refine hK.out _ _ (by (try dsimp only); first | with_reducible exact ⟨y2, y3, y4⟩ | with_reducible exact ⟨t2, t3, t4⟩ | with_reducible exact ⟨m2 _, m3 _, m4 _⟩ | (simp [go_sem, r0, r1, r2]; done) | (simp [go_sem, t2, t3, t4, nT, nT2]; done)) (fun hHeld => ?_)
        clear hK K
        try simp only [Act.put, List.getElem_toArray, List.getElem_cons_zero, List.getElem_cons_succ, List.setIfInBounds_toArray, List.set_cons_zero, List.set_cons_succ]
        refine wpAnyH_ready (rs := [11]) (by kernel_rfl) (by simp) ?_
        refine AllReadyH.cons rfl (fun K hK => ?_) AllReadyH.nil
        refine step_append_rows _ rfl (.tmp 30) (.tmp 39) 22 86 (.agg #[.int .i64 0, .slice none 0 0, .int .i64 0]) 3 40 rfl Try.underlying22 Try.info86 rfl (by decide) wx.heap.size (.slice af2 kk cf2) (m.map frow) rfl (HA1.out _ _ hs.out.1) _ [[.int .i64 yi, .slice a2 dn cc, .int .i64 ys]] rfl (HA2.out _ _ _) (HA3.out _ _) HA4.out.1 HA4.out.2 (HA5.out _ _ hs.out.2.2) ?_
        intro v6 w6 o6 g6
        obtain ⟨a6, c6, e6⟩ := HSh.out _ _ _ _ o6
        subst e6
        obtain ⟨t1, tf, t2, t3, t4, hz⟩ := HG.out _ _ _ _ _ _ hs.out g6 o6
        refine hK.out _ _ (by (try dsimp only); first | with_reducible exact ⟨y2, y3, y4⟩ | with_reducible exact ⟨t2, t3, t4⟩ | with_reducible exact ⟨m2 _, m3 _, m4 _⟩ | (simp [go_sem, r0, r1, r2]; done) | (simp [go_sem, t2, t3, t4, nT, nT2]; done)) (fun hHeld => ?_)
        clear hK K
        try simp only [Act.put, List.getElem_toArray, List.getElem_cons_zero, List.getElem_cons_succ, List.setIfInBounds_toArray, List.set_cons_zero, List.set_cons_succ]
        refine wpAnyH_take (i := 12) (v := ?_) rfl (by kernel_rfl) (by kernel_rfl) (by kernel_rfl) (fun _ _ _ h => h) (Or.inl ⟨by kernel_rfl, ?_⟩) (by assumption) ?_
        rotate_left
        focus (intro w hSw; (try dsimp only at hSw); go_simp; (try with_reducible rfl); done)
        try simp only [Act.put, List.getElem_toArray, List.getElem_cons_zero, List.getElem_cons_succ, List.setIfInBounds_toArray, List.set_cons_zero, List.set_cons_succ]
        refine wpAnyH_ready (rs := [13]) (by kernel_rfl) (by simp) ?_
        refine AllReadyH.cons rfl (fun K hK => ?_) AllReadyH.nil
        go_simp
        refine hK.out _ _ (by (try dsimp only); first | with_reducible exact ⟨y2, y3, y4⟩ | with_reducible exact ⟨t2, t3, t4⟩ | with_reducible exact ⟨m2 _, m3 _, m4 _⟩ | (simp [go_sem, r0, r1, r2]; done) | (simp [go_sem, t2, t3, t4, nT, nT2]; done)) (fun hHeld => ?_)
        clear hK K
        try simp only [Act.put, List.getElem_toArray, List.getElem_cons_zero, List.getElem_cons_succ, List.setIfInBounds_toArray, List.set_cons_zero, List.set_cons_succ]
        refine wpAnyH_done (by kernel_rfl) ?_ _
        clear y1 y2 y3 y4 m1 m2 m3 m4 t1 t2 t3 t4 tf hs g6 o6 tq r0 r1 r2
        go_wp2_with fail
        exact ⟨⟨k + 1, by omega, by go_num, hz⟩, by simp [intOf]; omega⟩
      · skip
        go_simp
        refine (HC2.out _ UQ.out).mono ?_
        rintro e w' ⟨a2, cc, rfl, y1, y2, y3, y4, hs⟩
        have m1 := fun o => Lib.cell?_alloc_marked o y1
        have m2 := fun o => Lib.cell?_alloc_marked o y2
        have m3 := fun o => Lib.cell?_alloc_marked o y3
        have m4 := fun o => Lib.cell?_alloc_marked o y4
        go_wp2_with fail
        refine hK.out _ _ (by (try dsimp only); first | with_reducible exact ⟨y2, y3, y4⟩ | with_reducible exact ⟨t2, t3, t4⟩ | with_reducible exact ⟨m2 _, m3 _, m4 _⟩ | (simp [go_sem, r0, r1, r2]; done) | (simp [go_sem, t2, t3, t4, nT, nT2]; done)) (fun hHeld => ?_)
        clear hK K
        try simp only [Act.put, List.getElem_toArray, List.getElem_cons_zero, List.getElem_cons_succ, List.setIfInBounds_toArray, List.set_cons_zero, List.set_cons_succ]
        refine wpAnyH_take (i := 9) (v := ?_) rfl (by kernel_rfl) (by kernel_rfl) (by kernel_rfl) (fun _ _ _ h => h) (Or.inl ⟨by kernel_rfl, ?_⟩) (by assumption) ?_
        rotate_left
        focus (intro w hSw; (try dsimp only at hSw); go_simp; (try with_reducible rfl); done)
        try simp only [Act.put, List.getElem_toArray, List.getElem_cons_zero, List.getElem_cons_succ, List.setIfInBounds_toArray, List.set_cons_zero, List.set_cons_succ]
        refine wpAnyH_ready (rs := [1, 10]) (by kernel_rfl) (by simp) ?_
        refine AllReadyH.cons rfl (fun K hK => ?_) (AllReadyH.cons rfl (fun K hK => ?_) AllReadyH.nil)
        · skip
          go_simp
          refine hK.out _ _ (by (try dsimp only); first | with_reducible exact ⟨y2, y3, y4⟩ | with_reducible exact ⟨t2, t3, t4⟩ | with_reducible exact ⟨m2 _, m3 _, m4 _⟩ | (simp [go_sem, r0, r1, r2]; done) | (simp [go_sem, t2, t3, t4, nT, nT2]; done)) (fun hHeld => ?_)
          clear hK K
          try simp only [Act.put, List.getElem_toArray, List.getElem_cons_zero, List.getElem_cons_succ, List.setIfInBounds_toArray, List.set_cons_zero, List.set_cons_succ]
          refine wpAnyH_ready (rs := [10]) (by kernel_rfl) (by simp) ?_
          refine AllReadyH.cons rfl (fun K hK => ?_) AllReadyH.nil
          go_simp
          refine hK.out _ _ (by (try dsimp only); first | with_reducible exact ⟨y2, y3, y4⟩ | with_reducible exact ⟨t2, t3, t4⟩ | with_reducible exact ⟨m2 _, m3 _, m4 _⟩ | (simp [go_sem, r0, r1, r2]; done) | (simp [go_sem, t2, t3, t4, nT, nT2]; done)) (fun hHeld => ?_)
          clear hK K
          try simp only [Act.put, List.getElem_toArray, List.getElem_cons_zero, List.getElem_cons_succ, List.setIfInBounds_toArray, List.set_cons_zero, List.set_cons_succ]
          refine wpAnyH_ready (rs := [11]) (by kernel_rfl) (by simp) ?_
          refine AllReadyH.cons rfl (fun K hK => ?_) AllReadyH.nil
          refine step_append_rows _ rfl (.tmp 30) (.tmp 39) 22 86 (.agg #[.int .i64 0, .slice none 0 0, .int .i64 0]) 3 40 rfl Try.underlying22 Try.info86 rfl (by decide) wx.heap.size (.slice af2 kk cf2) (m.map frow) rfl (HA1.out _ _ hs.out.1) _ [[.int .i64 yi, .slice a2 dn cc, .int .i64 ys]] rfl (HA2.out _ _ _) (HA3.out _ _) HA4.out.1 HA4.out.2 (HA5.out _ _ hs.out.2.2) ?_
          intro v6 w6 o6 g6
          obtain ⟨a6, c6, e6⟩ := HSh.out _ _ _ _ o6
          subst e6
          obtain ⟨t1, tf, t2, t3, t4, hz⟩ := HG.out _ _ _ _ _ _ hs.out g6 o6
          refine hK.out _ _ (by (try dsimp only); first | with_reducible exact ⟨y2, y3, y4⟩ | with_reducible exact ⟨t2, t3, t4⟩ | with_reducible exact ⟨m2 _, m3 _, m4 _⟩ | (simp [go_sem, r0, r1, r2]; done) | (simp [go_sem, t2, t3, t4, nT, nT2]; done)) (fun hHeld => ?_)
          clear hK K
          try simp only [Act.put, List.getElem_toArray, List.getElem_cons_zero, List.getElem_cons_succ, List.setIfInBounds_toArray, List.set_cons_zero, List.set_cons_succ]
          refine wpAnyH_take (i := 12) (v := ?_) rfl (by kernel_rfl) (by kernel_rfl) (by kernel_rfl) (fun _ _ _ h => h) (Or.inl ⟨by kernel_rfl, ?_⟩) (by assumption) ?_
          rotate_left
          focus (intro w hSw; (try dsimp only at hSw); go_simp; (try with_reducible rfl); done)
          try simp only [Act.put, List.getElem_toArray, List.getElem_cons_zero, List.getElem_cons_succ, List.setIfInBounds_toArray, List.set_cons_zero, List.set_cons_succ]
          refine wpAnyH_ready (rs := [13]) (by kernel_rfl) (by simp) ?_
          refine AllReadyH.cons rfl (fun K hK => ?_) AllReadyH.nil
          go_simp
          refine hK.out _ _ (by (try dsimp only); first | with_reducible exact ⟨y2, y3, y4⟩ | with_reducible exact ⟨t2, t3, t4⟩ | with_reducible exact ⟨m2 _, m3 _, m4 _⟩ | (simp [go_sem, r0, r1, r2]; done) | (simp [go_sem, t2, t3, t4, nT, nT2]; done)) (fun hHeld => ?_)
          clear hK K
          try simp only [Act.put, List.getElem_toArray, List.getElem_cons_zero, List.getElem_cons_succ, List.setIfInBounds_toArray, List.set_cons_zero, List.set_cons_succ]
          refine wpAnyH_done (by kernel_rfl) ?_ _
          clear y1 y2 y3 y4 m1 m2 m3 m4 t1 t2 t3 t4 tf hs g6 o6 tq r0 r1 r2
          go_wp2_with fail
          exact ⟨⟨k + 1, by omega, by go_num, hz⟩, by simp [intOf]; omega⟩
        · skip
          go_simp
          refine hK.out _ _ (by (try dsimp only); first | with_reducible exact ⟨y2, y3, y4⟩ | with_reducible exact ⟨t2, t3, t4⟩ | with_reducible exact ⟨m2 _, m3 _, m4 _⟩ | (simp [go_sem, r0, r1, r2]; done) | (simp [go_sem, t2, t3, t4, nT, nT2]; done)) (fun hHeld => ?_)
          clear hK K
          try simp only [Act.put, List.getElem_toArray, List.getElem_cons_zero, List.getElem_cons_succ, List.setIfInBounds_toArray, List.set_cons_zero, List.set_cons_succ]
          refine wpAnyH_ready (rs := [1]) (by kernel_rfl) (by simp) ?_
          refine AllReadyH.cons rfl (fun K hK => ?_) AllReadyH.nil
          go_simp
          refine hK.out _ _ (by (try dsimp only); first | with_reducible exact ⟨y2, y3, y4⟩ | with_reducible exact ⟨t2, t3, t4⟩ | with_reducible exact ⟨m2 _, m3 _, m4 _⟩ | (simp [go_sem, r0, r1, r2]; done) | (simp [go_sem, t2, t3, t4, nT, nT2]; done)) (fun hHeld => ?_)
          clear hK K
          try simp only [Act.put, List.getElem_toArray, List.getElem_cons_zero, List.getElem_cons_succ, List.setIfInBounds_toArray, List.set_cons_zero, List.set_cons_succ]
          refine wpAnyH_ready (rs := [11]) (by kernel_rfl) (by simp) ?_
          refine AllReadyH.cons rfl (fun K hK => ?_) AllReadyH.nil
          refine step_append_rows _ rfl (.tmp 30) (.tmp 39) 22 86 (.agg #[.int .i64 0, .slice none 0 0, .int .i64 0]) 3 40 rfl Try.underlying22 Try.info86 rfl (by decide) wx.heap.size (.slice af2 kk cf2) (m.map frow) rfl (HA1.out _ _ hs.out.1) _ [[.int .i64 yi, .slice a2 dn cc, .int .i64 ys]] rfl (HA2.out _ _ _) (HA3.out _ _) HA4.out.1 HA4.out.2 (HA5.out _ _ hs.out.2.2) ?_
          intro v6 w6 o6 g6
          obtain ⟨a6, c6, e6⟩ := HSh.out _ _ _ _ o6
          subst e6
          obtain ⟨t1, tf, t2, t3, t4, hz⟩ := HG.out _ _ _ _ _ _ hs.out g6 o6
          refine hK.out _ _ (by (try dsimp only); first | with_reducible exact ⟨y2, y3, y4⟩ | with_reducible exact ⟨t2, t3, t4⟩ | with_reducible exact ⟨m2 _, m3 _, m4 _⟩ | (simp [go_sem, r0, r1, r2]; done) | (simp [go_sem, t2, t3, t4, nT, nT2]; done)) (fun hHeld => ?_)
          clear hK K
          try simp only [Act.put, List.getElem_toArray, List.getElem_cons_zero, List.getElem_cons_succ, List.setIfInBounds_toArray, List.set_cons_zero, List.set_cons_succ]
          refine wpAnyH_take (i := 12) (v := ?_) rfl (by kernel_rfl) (by kernel_rfl) (by kernel_rfl) (fun _ _ _ h => h) (Or.inl ⟨by kernel_rfl, ?_⟩) (by assumption) ?_
          rotate_left
          focus (intro w hSw; (try dsimp only at hSw); go_simp; (try with_reducible rfl); done)
          try simp only [Act.put, List.getElem_toArray, List.getElem_cons_zero, List.getElem_cons_succ, List.setIfInBounds_toArray, List.set_cons_zero, List.set_cons_succ]
          refine wpAnyH_ready (rs := [13]) (by kernel_rfl) (by simp) ?_
          refine AllReadyH.cons rfl (fun K hK => ?_) AllReadyH.nil
          go_simp
          refine hK.out _ _ (by (try dsimp only); first | with_reducible exact ⟨y2, y3, y4⟩ | with_reducible exact ⟨t2, t3, t4⟩ | with_reducible exact ⟨m2 _, m3 _, m4 _⟩ | (simp [go_sem, r0, r1, r2]; done) | (simp [go_sem, t2, t3, t4, nT, nT2]; done)) (fun hHeld => ?_)
          clear hK K
          try simp only [Act.put, List.getElem_toArray, List.getElem_cons_zero, List.getElem_cons_succ, List.setIfInBounds_toArray, List.set_cons_zero, List.set_cons_succ]
          refine wpAnyH_done (by kernel_rfl) ?_ _
          clear y1 y2 y3 y4 m1 m2 m3 m4 t1 t2 t3 t4 tf hs g6 o6 tq r0 r1 r2
          go_wp2_with fail
          exact ⟨⟨k + 1, by omega, by go_num, hz⟩, by simp [intOf]; omega⟩
    · have hlt' : ¬ (k : Int) < (s.files.length : Int) := by omega
      obtain rfl : k = s.files.length := by omega
      rw [List.take_length] at HO
      obtain ⟨vf, vn, vs, hb, ou⟩ := HO.out.1.take
      obtain ⟨a4, n4, c4, a5, n5, c5, a6, n6, c6, ev4⟩ := ou.shape
      simp at ev4
      obtain ⟨rfl, rfl, rfl⟩ := ev4
      obtain ⟨t0, t1, t2, t3, t4⟩ := box_cells hb
      have hR := blk_up HB.out.2 HO.out.2
      obtain ⟨x0, x1, x2, x3, x4⟩ := box_cells hR
      have f0 := blk_frozen hR 0
      have f1 := blk_frozen hR 1
      have f2 := blk_frozen hR 2
      have f3 := blk_frozen hR 3
      have f4 := blk_frozen hR 4
      have b5 := set5_blk hR (.int .i64 s.cap) (.slice a4 n4 c4) (.slice a5 n5 c5) (.slice a6 n6 c6) (.int .i64 s.next)
      have HV5 : Hid (OwnU (set5 wr (w.heap.size + 1) (.int .i64 s.cap) (.slice a4 n4 c4) (.slice a5 n5 c5) (.slice a6 n6 c6) (.int .i64 s.next)) wx.heap.size (.agg #[.int .i64 s.cap, .slice a4 n4 c4, .slice a5 n5 c5, .slice a6 n6 c6, .int .i64 s.next]) s) := (ou.put hR).2
      have HUw : Hid (Below w.heap.size w wr) := up_trans up.out HO.out.2
      clear hb ou hR
      go_wp2_with fail
      refine bodyPost_ret (results_docs rfl _ _ rfl b5) rfl ?_
      refine ⟨_, rfl, HV5.out.mono up.out.size, ?_⟩
      exact HUw.out.grown (set5_grown _ _ _ _ _ _ _) HUw.out.size (fun j hj => by injection hj with hj; rw [← hj]; omega)
end Go.Proofs.Ytoceddpjkodfkaa

/- The document's swept. -/
namespace Go.Proofs.Ytoceddpjkodfkaa
open Go.RowKit
set_option linter.unusedVariables false
set_option linter.unusedSimpArgs false

theorem swept_add {wz wp w6 : World} {N : Nat} {a : Option Addr} {c : Nat} {q : List FRow} {y : FRow} {x0 x2 x3 x4 v6 : Value} (o : Obj) (hT : wp.heap[N + 2]? = some (.cells #[x0, .slice a q.length c, x2, x3, x4] 25)) (hR : OwnR wp (N + 3) 86 3 (.slice a q.length c) (q.map frow)) (hB : Below (N + 2) wz wp) (hz : N + 3 ≤ wp.heap.size)
    (g6 : (wp.alloc o).drew.grownBy w6 (Value.ownBlock (.slice a q.length c))) (o6 : OwnR w6 (N + 3) 86 3 v6 (q.map frow ++ [frow y])) :
    w6.heap[N + 2]? = some (.cells #[x0, .slice a q.length c, x2, x3, x4] 25) ∧ (w6.setCell ⟨N + 2, 1, none⟩ v6).heap[N + 2]? = some (.cells #[x0, v6, x2, x3, x4] 25) ∧ OwnR (w6.setCell ⟨N + 2, 1, none⟩ v6) (N + 3) 86 3 v6 ((q ++ [y]).map frow) ∧ Below (N + 2) wz (w6.setCell ⟨N + 2, 1, none⟩ v6) := by
  have u : Below wp.heap.size wp (wp.alloc o).drew := up_dr (up_al (Below.refl wp.heap.size wp) o)
  have hT2 := blk_up hT u
  have hR2 := hR.up u
  have nB : some (N + 2) ≠ Value.ownBlock (.slice a q.length c) := by
    intro e
    have := (hR2.2.lt _ e.symm).1
    omega
  have b1 := blk_grown hT2 g6 nB
  have g5 := grown_set w6 ⟨N + 2, 1, none⟩ v6
  refine ⟨b1, blk_set b1 1 v6, ?_, ?_⟩
  · rw [List.map_append]
    exact o6.far g5 (own_blk_ne o6.2 b1 (by decide))
  · have h1 : Below (N + 2) wz (wp.alloc o).drew := hB.trans (u.mono (by omega))
    have h2 : Below (N + 2) wz w6 := h1.grown g6 (by have := h1.size; have := u.size; omega) (fun k hk => by have := (hR2.2.lt k hk).1; omega)
    refine h2.grown g5 (by have := g6.size; have := u.size; omega) (fun k hk => ?_)
    injection hk with hk
    rw [← hk]
    exact Nat.le_refl _

theorem filter_snoc {A : Type} (P : A → Bool) (l : List A) (k : Nat) (d : A) (hk : k < l.length) : (l.take (k + 1)).filter P = (l.take k).filter P ++ (if P (l.getD k d) then [l.getD k d] else []) := by
  rw [take_snoc l k d hk, List.filter_append]
  congr 1
  generalize l.getD k d = y
  by_cases c : P y = true
  · simp [c]
  · simp [c]

set_option maxHeartbeats 8000000 in
set_option maxRecDepth 4000 in
theorem refSwept_any (s : St) (base : Nat) (v : Value) (w : World) (hv : OwnU w base v s) (hl : s.files.length ≤ 257) (hbase : base ≤ w.heap.size) :
    Calls Try.prog 39 #[v] w fun e w' => ∃ v', e = .returned v' ∧ OwnU w' base v' (sweptOf s) ∧ Below w.heap.size w w' := by
  have HU : Hid (OwnU w base v s) := hv
  obtain ⟨vf, vn, vs, m, rfl, hm, of, on, os, hap, hi1, hi2⟩ := hv
  obtain ⟨af, cf, e1, _, _⟩ := (Rws.own of.1).len
  rw [List.length_map] at e1
  obtain ⟨an, cn, e2, _, _⟩ := (NamesW.own on).len
  obtain ⟨as', cs', e3, _, _⟩ := (NamesW.own os).len
  subst e1 e2 e3
  have HOf : Hid (OwnG w base (.slice af m.length cf) m) := of
  have HOn : Hid (OwnN w base 88 (.slice an s.names.length cn) s.names ∧ OwnN w base 88 (.slice as' s.safe.length cs') s.safe ∧ Apart (.slice an s.names.length cn) (.slice as' s.safe.length cs') ∧ In64 s.cap ∧ In64 s.next) := ⟨on, os, hap, hi1, hi2⟩
  have HM : Hid (m.map (·.2) = s.files) := hm
  have HL : Hid (m.length ≤ 257) := by
    have := congrArg List.length hm
    rw [List.length_map] at this
    unfold Hid
    omega
  obtain ⟨N, hN⟩ : ∃ N, N = w.heap.size := ⟨_, rfl⟩
  obtain ⟨wz, hwz⟩ : ∃ wz, wz = ((w.alloc (.cells #[.int .i64 s.cap, .slice af m.length cf, .slice an s.names.length cn, .slice as' s.safe.length cs', .int .i64 s.next] 25)).alloc (.cells #[.int .i64 0, .slice none 0 0, .slice none 0 0, .slice none 0 0, .int .i64 0] 25)).alloc (.cells #[.int .i64 s.cap, .slice none 0 0, .slice an s.names.length cn, .slice as' s.safe.length cs', .int .i64 s.next] 25) := ⟨_, rfl⟩
  have HWz : Hid (((w.alloc (.cells #[.int .i64 s.cap, .slice af m.length cf, .slice an s.names.length cn, .slice as' s.safe.length cs', .int .i64 s.next] 25)).alloc (.cells #[.int .i64 0, .slice none 0 0, .slice none 0 0, .slice none 0 0, .int .i64 0] 25)).alloc (.cells #[.int .i64 s.cap, .slice none 0 0, .slice an s.names.length cn, .slice as' s.safe.length cs', .int .i64 s.next] 25) = wz) := hwz.symm
  have b0 : wz.heap[N]? = some (.cells #[.int .i64 s.cap, .slice af m.length cf, .slice an s.names.length cn, .slice as' s.safe.length cs', .int .i64 s.next] 25) := by rw [hwz, hN]; exact blk_up (blk_two0 w _ _) (up_al (Below.refl _ _) _)
  have b1 : wz.heap[N + 1]? = some (.cells #[.int .i64 0, .slice none 0 0, .slice none 0 0, .slice none 0 0, .int .i64 0] 25) := by rw [hwz, hN]; exact blk_up (blk_two1 w _ _) (up_al (Below.refl _ _) _)
  have b2 : wz.heap[N + 2]? = some (.cells #[.int .i64 s.cap, .slice none 0 0, .slice an s.names.length cn, .slice as' s.safe.length cs', .int .i64 s.next] 25) := by
    rw [hwz, hN]
    have := blk_new ((w.alloc (.cells #[.int .i64 s.cap, .slice af m.length cf, .slice an s.names.length cn, .slice as' s.safe.length cs', .int .i64 s.next] 25)).alloc (.cells #[.int .i64 0, .slice none 0 0, .slice none 0 0, .slice none 0 0, .int .i64 0] 25)) (.cells #[.int .i64 s.cap, .slice none 0 0, .slice an s.names.length cn, .slice as' s.safe.length cs', .int .i64 s.next] 25)
    simpa using this
  have hsz : wz.heap.size = N + 3 := by rw [hwz, hN]; simp
  have HSz : Hid (wz.heap.size = N + 3 ∧ N = w.heap.size) := ⟨hsz, hN⟩
  have UZ : Hid (Below N w wz) := by rw [hwz, hN]; exact up_al (up_al (up_al (Below.refl _ _) _) _) _
  have HB : Hid (wz.heap[N]? = some (.cells #[.int .i64 s.cap, .slice af m.length cf, .slice an s.names.length cn, .slice as' s.safe.length cs', .int .i64 s.next] 25) ∧ wz.heap[N + 1]? = some (.cells #[.int .i64 0, .slice none 0 0, .slice none 0 0, .slice none 0 0, .int .i64 0] 25) ∧ wz.heap[N + 2]? = some (.cells #[.int .i64 s.cap, .slice none 0 0, .slice an s.names.length cn, .slice as' s.safe.length cs', .int .i64 s.next] 25)) := ⟨b0, b1, b2⟩
  clear hwz b0 b1 b2 hsz of on os hap hi1 hi2 hm hl
  obtain ⟨P, hP⟩ : ∃ P : FRow → Bool, P = fun y => standsOf s.names y.2.1 || standsOf s.safe y.2.1 := ⟨_, rfl⟩
  have HP : Hid (P = fun y => standsOf s.names y.2.1 || standsOf s.safe y.2.1) := hP
  clear hP
  go_enter Try.func39, Try.ntmps39
  go_wp2_with fail
  rw [HWz.out, ← hN]
  clear HWz hN
  go_loopw [4] (fun i wr => ∃ (k : Nat) (q : List FRow) (a : Option Addr) (c : Nat), k ≤ m.length ∧ i = .int .i64 k ∧ Hid (q = (m.take k).filter P) ∧ Hid (wr.heap[N + 2]? = some (.cells #[.int .i64 s.cap, .slice a q.length c, .slice an s.names.length cn, .slice as' s.safe.length cs', .int .i64 s.next] 25)) ∧ Hid (OwnR wr (N + 3) 86 3 (.slice a q.length c) (q.map frow)) ∧ Hid (Below (N + 2) wz wr)) (fun i _ => m.length - (intOf i).toNat)
  case atStart => exact ⟨0, [], none, 0, Nat.zero_le _, rfl, rfl, HB.out.2.2, OwnR.nil _ _ _ _, Below.refl _ _⟩
  case round =>
    obtain ⟨k, q, a, c, hk, rfl, HQ, HT, HR, HW⟩ := hrel
    have bN : Hid (wr.heap[N]? = some (.cells #[.int .i64 s.cap, .slice af m.length cf, .slice an s.names.length cn, .slice as' s.safe.length cs', .int .i64 s.next] 25)) := (HW.out.block N (by omega)).trans HB.out.1
    have bR : Hid (wr.heap[N + 1]? = some (.cells #[.int .i64 0, .slice none 0 0, .slice none 0 0, .slice none 0 0, .int .i64 0] 25)) := (HW.out.block (N + 1) (by omega)).trans HB.out.2.1
    have UR : Hid (Below w.heap.size w wr) := by
      have h1 := UZ.out
      have h2 := HW.out.mono (show N ≤ N + 2 by omega)
      rw [HSz.out.2] at h1 h2
      exact h1.trans h2
    have hszr : N + 3 ≤ wr.heap.size := by have h1 := HW.out.size; have h2 := HSz.out.1; omega
    by_cases hlt : k < m.length
    · have hlt' : (k : Int) < (m.length : Int) := by omega
      obtain ⟨b, off, cap', e, _, _, hc⟩ := (Rws.own (HOf.out.up UR.out).1).at k (by rw [List.length_map]; exact hlt)
      rw [List.length_map] at e
      simp at e
      obtain ⟨rfl, rfl⟩ := e
      have hr : (m.map frow).getD k [] = frow (m.getD k noF) := by simp [List.getD, hlt]
      rw [hr] at hc
      have c0 := hc 0 _ rfl
      have c1 := hc 1 _ rfl
      have c2 := hc 2 _ rfl
      simp only [Nat.add_zero] at c0
      have hmem : m.getD k noF ∈ m := by simp [List.getD, hlt]
      have hrow := (HOf.out.2.1 _ hmem)
      have HFs : Hid ((m.take (k + 1)).filter P = (m.take k).filter P ++ (if P (m.getD k noF) then [m.getD k noF] else [])) := filter_snoc P m k noF hlt
      have nb : b < N := by
        have := (HOf.out.1.2.lt b rfl).2
        have := HSz.out.2
        omega
      clear hr hc
      generalize m.getD k noF = y at *
      obtain ⟨yv, yi, yd, ys⟩ := y
      simp only at c0 c1 c2 hrow
      obtain ⟨ad, cd, ev, _⟩ := (Octs.own hrow.1 hrow.2.1).slice
      subst ev
      have hPy : P (.slice ad yd.length cd, yi, yd, ys) = (standsOf s.names yi || standsOf s.safe yi) := by rw [HP.out]
      have HPy : Hid (P (.slice ad yd.length cd, yi, yd, ys) = (standsOf s.names yi || standsOf s.safe yi)) := hPy
      have HOk : Hid (OwnB w base (.slice ad yd.length cd) yd ∧ okRow (.slice ad yd.length cd, yi, yd, ys)) := hrow
      clear hPy hmem hrow
      have v1 := blk_cell bN.out 1 _ rfl
      have x1 := cell_up v1
      have x2 := cell_up (blk_cell bN.out 2 _ rfl)
      have x3 := cell_up (blk_cell bN.out 3 _ rfl)
      have y0 := cell_up c0
      have HC1 : Hid (∀ p : UpW wr, Calls Try.prog 54 #[.slice an s.names.length cn, .int .i64 yi] p.val fun e w' => e = .returned (.bool (standsOf s.names yi)) ∧ Below p.val.heap.size p.val w') := by
        intro p
        refine (refStands_any s.names yi _ p.val (NamesW.own (HOn.out.1.up (up_trans UR.out p.up)))).mono ?_
        rintro e w' ⟨rfl, rfl⟩
        exact ⟨rfl, Below.refl _ _⟩
      have HC2 : Hid (∀ p : UpW wr, Calls Try.prog 54 #[.slice as' s.safe.length cs', .int .i64 yi] p.val fun e w' => e = .returned (.bool (standsOf s.safe yi)) ∧ Below p.val.heap.size p.val w') := by
        intro p
        refine (refStands_any s.safe yi _ p.val (NamesW.own (HOn.out.2.1.up (up_trans UR.out p.up)))).mono ?_
        rintro e w' ⟨rfl, rfl⟩
        exact ⟨rfl, Below.refl _ _⟩
      go_upto_region 6 with fail
      go_cut [33] from 14 to 33 (fun s33 wx => s33 = .bool (standsOf s.names yi || standsOf s.safe yi) ∧ Hid (Below wr.heap.size wr wx))
      case first =>
        cases q1 : standsOf s.names yi
        · cases q2 : standsOf s.safe yi
          · have HD1 : Hid (∀ p : UpW wr, Calls Try.prog 54 #[.slice an s.names.length cn, .int .i64 yi] p.val fun e w' => e = .returned (.bool false) ∧ Below p.val.heap.size p.val w') := by
              intro p
              have h := HC1.out p
              rw [q1] at h
              exact h
            have HD2 : Hid (∀ p : UpW wr, Calls Try.prog 54 #[.slice as' s.safe.length cs', .int .i64 yi] p.val fun e w' => e = .returned (.bool false) ∧ Below p.val.heap.size p.val w') := by
              intro p
              have h := HC2.out p
              rw [q2] at h
              exact h
            refine wp_region_up (by kernel_rfl) (by kernel_rfl) ?_
            repeat
              (with_reducible refine wpQuiet_step (fun K hK => ?_)
               go_simp
               first
                 | (refine hK _ ?_; clear hK K)
                 | (apply Exists.intro; refine ⟨fun _ => ?_, hK _ ?_⟩; go_at_call 54; first | with_reducible refine calls_up (HD1.out _) | with_reducible refine calls_up (HD2.out _); clear hK K))
            with_reducible refine wpQuiet_nil ?_
            intro _ hw'
            obtain ⟨p, hw''⟩ := hw'
            subst hw''
            go_wp2_with fail
            go_meet
            case rel => exact ⟨by rw [q1, q2]; rfl, p.up⟩
          · have HD1 : Hid (∀ p : UpW wr, Calls Try.prog 54 #[.slice an s.names.length cn, .int .i64 yi] p.val fun e w' => e = .returned (.bool false) ∧ Below p.val.heap.size p.val w') := by
              intro p
              have h := HC1.out p
              rw [q1] at h
              exact h
            have HD2 : Hid (∀ p : UpW wr, Calls Try.prog 54 #[.slice as' s.safe.length cs', .int .i64 yi] p.val fun e w' => e = .returned (.bool true) ∧ Below p.val.heap.size p.val w') := by
              intro p
              have h := HC2.out p
              rw [q2] at h
              exact h
            refine wp_region_up (by kernel_rfl) (by kernel_rfl) ?_
            repeat
              (with_reducible refine wpQuiet_step (fun K hK => ?_)
               go_simp
               first
                 | (refine hK _ ?_; clear hK K)
                 | (apply Exists.intro; refine ⟨fun _ => ?_, hK _ ?_⟩; go_at_call 54; first | with_reducible refine calls_up (HD1.out _) | with_reducible refine calls_up (HD2.out _); clear hK K))
            with_reducible refine wpQuiet_nil ?_
            intro _ hw'
            obtain ⟨p, hw''⟩ := hw'
            subst hw''
            go_wp2_with fail
            go_meet
            case rel => exact ⟨by rw [q1, q2]; rfl, p.up⟩
        · have HD1 : Hid (∀ p : UpW wr, Calls Try.prog 54 #[.slice an s.names.length cn, .int .i64 yi] p.val fun e w' => e = .returned (.bool true) ∧ Below p.val.heap.size p.val w') := by
            intro p
            have h := HC1.out p
            rw [q1] at h
            exact h
          refine wp_region_up (by kernel_rfl) (by kernel_rfl) ?_
          repeat
            (with_reducible refine wpQuiet_step (fun K hK => ?_)
             go_simp
             first
               | (refine hK _ ?_; clear hK K)
               | (apply Exists.intro; refine ⟨fun _ => ?_, hK _ ?_⟩; go_at_call 54; with_reducible refine calls_up (HD1.out _); clear hK K))
          with_reducible refine wpQuiet_nil ?_
          intro _ hw'
          obtain ⟨p, hw''⟩ := hw'
          subst hw''
          go_wp2_with fail
          go_meet
          case rel => exact ⟨by rw [q1]; rfl, p.up⟩
      case rest =>
      obtain ⟨rfl, HUc⟩ := hcut
      clear HC1 HC2 x1 x2 x3 y0
      have hle : (k : Int) + 1 ≤ 257 := by have := HL.out; omega
      cases hp : (standsOf s.names yi || standsOf s.safe yi)
      · have HQ2 : Hid (q = (m.take (k + 1)).filter P) := by
          unfold Hid
          rw [HFs.out, HPy.out, hp, ← HQ.out]
          simp
        clear hp c0 c1 c2 v1
        have HT2 : Hid (wc.heap[N + 2]? = some (.cells #[.int .i64 s.cap, .slice a q.length c, .slice an s.names.length cn, .slice as' s.safe.length cs', .int .i64 s.next] 25)) := blk_up HT.out HUc.out
        have HR2 : Hid (OwnR wc (N + 3) 86 3 (.slice a q.length c) (q.map frow)) := HR.out.up HUc.out
        have HW2 : Hid (Below (N + 2) wz wc) := HW.out.trans (HUc.out.mono (by omega))
        go_wp2_with fail
        exact ⟨⟨k + 1, q, a, c, by omega, by go_num, HQ2, HT2, HR2, HW2⟩, by simp [intOf]; omega⟩
      · have HQ2 : Hid (q ++ [(.slice ad yd.length cd, yi, yd, ys)] = (m.take (k + 1)).filter P) := by
          unfold Hid
          rw [HFs.out, HPy.out, hp, ← HQ.out]
          simp
        clear hp
        have r1 := (HUc.out.cell (World.block_lt_of_cell? _ _ v1)).trans v1
        have d0 := (HUc.out.cell (World.block_lt_of_cell? _ _ c0)).trans c0
        have d1 := (HUc.out.cell (World.block_lt_of_cell? _ _ c1)).trans c1
        have d2 := (HUc.out.cell (World.block_lt_of_cell? _ _ c2)).trans c2
        have HT2 := blk_up HT.out HUc.out
        have t1 := blk_cell HT2 1 _ rfl
        have HTT : Hid (wc.heap[N + 2]? = some (.cells #[.int .i64 s.cap, .slice a q.length c, .slice an s.names.length cn, .slice as' s.safe.length cs', .int .i64 s.next] 25)) := HT2
        have HR2 : Hid (OwnR wc (N + 3) 86 3 (.slice a q.length c) (q.map frow)) := HR.out.up HUc.out
        have HW2 : Hid (Below (N + 2) wz wc) := HW.out.trans (HUc.out.mono (by omega))
        have hszc : Hid (N + 3 ≤ wc.heap.size) := Nat.le_trans hszr HUc.out.size
        have nb1 : ¬ b = N + 2 := by omega
        have nb2 : ¬ N + 2 = b := by omega
        obtain ⟨dn, hdn⟩ : ∃ dn, dn = yd.length := ⟨_, rfl⟩
        rw [← hdn] at d1 HQ2
        obtain ⟨ql, hql⟩ : ∃ ql, ql = q.length := ⟨_, rfl⟩
        have HQl : Hid (ql = q.length) := hql
        rw [← hql] at t1
        have HQm : Hid (q.length ≤ 257) := by
          rw [HQ.out]
          have h1 := List.length_filter_le P (m.take k)
          rw [List.length_take] at h1
          have h2 := HL.out
          unfold Hid
          omega
        clear c0 c1 c2 v1 HT2 hdn hql
        have e1 := fun o => ((up_dr (up_al (Below.refl wc.heap.size wc) o)).cell (World.block_lt_of_cell? _ _ t1)).trans t1
        have m1 := fun o => ((up_dr (up_al (Below.refl wc.heap.size wc) o)).cell (World.block_lt_of_cell? _ _ r1)).trans r1
        have m2 := fun o => ((up_dr (up_al (Below.refl wc.heap.size wc) o)).cell (World.block_lt_of_cell? _ _ d0)).trans d0
        have m3 := fun o => ((up_dr (up_al (Below.refl wc.heap.size wc) o)).cell (World.block_lt_of_cell? _ _ d1)).trans d1
        have m4 := fun o => ((up_dr (up_al (Below.refl wc.heap.size wc) o)).cell (World.block_lt_of_cell? _ _ d2)).trans d2
        have HA1 : Hid (OwnR (wc.alloc (.cells #[.int .i64 yi, .slice ad dn cd, .int .i64 ys] 86)).drew (N + 3) 86 3 (.slice a ql c) (q.map frow)) := by
          rw [HQl.out]
          exact (HR2.out.up (up_al (Below.refl _ _) _)).up (up_dr (Below.refl _ _))
        have HA2 : Hid (∀ (w' : World), Rws 3 (w'.alloc (.cells #[.int .i64 yi, .slice ad dn cd, .int .i64 ys] 86)).drew (.slice (some ⟨w'.heap.size, 0, none⟩) 1 1) [[.int .i64 yi, .slice ad dn cd, .int .i64 ys]]) := by
          intro w'
          have := Rws.made (sz := 3) w' 86 [[.int .i64 yi, .slice ad dn cd, .int .i64 ys]] (by intro cs hcs; simp at hcs; subst hcs; rfl) (by simp [maxLen])
          have h2 : Rws 3 (w'.alloc (.cells #[.int .i64 yi, .slice ad dn cd, .int .i64 ys] 86)) (.slice (some ⟨w'.heap.size, 0, none⟩) 1 1) [[.int .i64 yi, .slice ad dn cd, .int .i64 ys]] := by simpa using this
          exact h2.up (up_dr (Below.refl _ _))
        have HA3 : Hid (∀ cs ∈ [[Value.int .i64 yi, .slice ad dn cd, .int .i64 ys]], ∀ u ∈ cs, u.oneCell' = true) := by
          intro cs hcs u hu
          simp at hcs
          subst hcs
          simp at hu
          rcases hu with rfl | rfl | rfl <;> rfl
        have HA4 : Hid ((((q.map frow).length + 1) + ((q.map frow).length + 1) / 4 + 192) * 40 ≤ 281474976710656 ∧ (q.map frow).length + 1 ≤ maxLen) := by
          rw [List.length_map]
          have h1 := HQm.out
          unfold maxLen
          constructor <;> omega
        have HA5 : Hid (N + 3 ≤ (wc.alloc (.cells #[.int .i64 yi, .slice ad dn cd, .int .i64 ys] 86)).drew.heap.size) := by
          have h1 := hszc.out
          have h2 : (wc.alloc (.cells #[.int .i64 yi, .slice ad dn cd, .int .i64 ys] 86)).drew.heap.size = wc.heap.size + 1 := by
            show (wc.heap.push _).size = _
            simp
          unfold Hid
          rw [h2]
          omega
        have HG : Hid (∀ (w6 : World) (v6 : Value), (wc.alloc (.cells #[.int .i64 yi, .slice ad dn cd, .int .i64 ys] 86)).drew.grownBy w6 (Value.ownBlock (.slice a ql c)) → OwnR w6 (N + 3) 86 3 v6 (q.map frow ++ [[.int .i64 yi, .slice ad dn cd, .int .i64 ys]]) →
            ∃ a6 c6, v6 = .slice a6 (ql + 1) c6 ∧ w6.cell? ⟨N + 2, 1, none⟩ = some (.slice a ql c) ∧ w6.frozen? ⟨N + 2, 1, none⟩ = false ∧ w6.cell? ⟨N, 1, none⟩ = some (.slice (some ⟨b, off, none⟩) m.length cf) ∧ w6.cell? ⟨b, off + k * 3, none⟩ = some (.int .i64 yi) ∧ w6.cell? ⟨b, off + k * 3 + 1, none⟩ = some (.slice ad dn cd) ∧ w6.cell? ⟨b, off + k * 3 + 2, none⟩ = some (.int .i64 ys) ∧
            Hid ((w6.setCell ⟨N + 2, 1, none⟩ v6).heap[N + 2]? = some (.cells #[.int .i64 s.cap, .slice a6 (ql + 1) c6, .slice an s.names.length cn, .slice as' s.safe.length cs', .int .i64 s.next] 25) ∧ OwnR (w6.setCell ⟨N + 2, 1, none⟩ v6) (N + 3) 86 3 v6 ((q ++ [((.slice ad dn cd, yi, yd, ys) : FRow)]).map frow) ∧ Below (N + 2) wz (w6.setCell ⟨N + 2, 1, none⟩ v6))) := by
          intro w6 v6 hg ho6
          obtain ⟨a6, c6, e6, _, _⟩ := (Rws.own ho6).len
          rw [List.length_append, List.length_map, ← HQl.out] at e6
          have e7 : v6 = .slice a6 (ql + 1) c6 := e6
          clear e6
          have e6 := e7
          rw [HQl.out] at hg e6 ⊢
          have z := swept_add (wz := wz) (y := (.slice ad dn cd, yi, yd, ys)) _ HTT.out HR2.out HW2.out hszc.out hg ho6
          have hlow : ∀ g, Value.ownBlock (.slice a q.length c) = some g → N + 3 ≤ g := fun g hg' => (HR2.out.2.lt g hg').1
          have keep : ∀ bb o2 x, bb < N + 2 → wc.cell? ⟨bb, o2, none⟩ = some x → w6.cell? ⟨bb, o2, none⟩ = some x := by
            intro bb o2 x hbb hx
            have h1 : (wc.alloc (.cells #[.int .i64 yi, .slice ad dn cd, .int .i64 ys] 86)).drew.cell? ⟨bb, o2, none⟩ = some x := ((up_dr (up_al (Below.refl wc.heap.size wc) _)).cell (World.block_lt_of_cell? _ _ hx)).trans hx
            refine hg.cell h1 ?_
            intro e
            have := hlow bb e.symm
            omega
          refine ⟨a6, c6, e6, blk_cell z.1 1 _ rfl, blk_frozen z.1 1, keep _ _ _ (by omega) r1, keep _ _ _ (by omega) d0, keep _ _ _ (by omega) d1, keep _ _ _ (by omega) d2, ?_, z.2.2.1, z.2.2.2⟩
          have h := z.2.1
          rw [e6] at h ⊢
          exact h
        go_upto_region 7 with fail
        refine wp_region_held_drew (S := (fun w' => w'.cell? ⟨N, 1, none⟩ = some (.slice (some ⟨b, off, none⟩) m.length cf) ∧ w'.cell? ⟨b, off + k * 3, none⟩ = some (.int .i64 yi) ∧ w'.cell? ⟨b, off + k * 3 + 1, none⟩ = some (.slice ad dn cd) ∧ w'.cell? ⟨b, off + k * 3 + 2, none⟩ = some (.int .i64 ys))) (by kernel_rfl) (by (try dsimp only); first | with_reducible exact ⟨z1, z2, z3, z4⟩ | with_reducible exact ⟨m1 _, m2 _, m3 _, m4 _⟩ | (simp [go_sem, r1, d0, d1, d2]; done) | (simp [go_sem, z1, z2, z3, z4, nb1, nb2]; done)) (fun hHeld => ?_)
        refine wpAnyH_take (i := 0) (v := ?_) rfl (by kernel_rfl) (by kernel_rfl) (by kernel_rfl) (fun _ _ _ h => h) (Or.inl ⟨by kernel_rfl, ?_⟩) (by assumption) ?_
        rotate_left
        focus (intro w hSw; (try dsimp only at hSw); go_simp; (try with_reducible rfl); done)
        try simp only [Act.put, List.getElem_toArray, List.getElem_cons_zero, List.getElem_cons_succ, List.setIfInBounds_toArray, List.set_cons_zero, List.set_cons_succ]
        refine wpAnyH_take (i := 2) (v := ?_) rfl (by kernel_rfl) (by kernel_rfl) (by kernel_rfl) (fun _ _ _ h => h) (Or.inl ⟨by kernel_rfl, ?_⟩) (by assumption) ?_
        rotate_left
        focus (intro w hSw; (try dsimp only at hSw); go_simp; (try with_reducible rfl); done)
        try simp only [Act.put, List.getElem_toArray, List.getElem_cons_zero, List.getElem_cons_succ, List.setIfInBounds_toArray, List.set_cons_zero, List.set_cons_succ]
        refine wpAnyH_take (i := 3) (v := ?_) rfl (by kernel_rfl) (by kernel_rfl) (by kernel_rfl) (fun _ _ _ h => h) (Or.inl ⟨by kernel_rfl, ?_⟩) (by assumption) ?_
        rotate_left
        focus (intro w hSw; (try dsimp only at hSw); go_simp; (try with_reducible rfl); done)
        try simp only [Act.put, List.getElem_toArray, List.getElem_cons_zero, List.getElem_cons_succ, List.setIfInBounds_toArray, List.set_cons_zero, List.set_cons_succ]
        refine wpAnyH_take (i := 4) (v := ?_) rfl (by kernel_rfl) (by kernel_rfl) (by kernel_rfl) (fun _ _ _ h => h) (Or.inl ⟨by kernel_rfl, ?_⟩) (by assumption) ?_
        rotate_left
        focus (intro w hSw; (try dsimp only at hSw); go_simp; (try with_reducible rfl); done)
        try simp only [Act.put, List.getElem_toArray, List.getElem_cons_zero, List.getElem_cons_succ, List.setIfInBounds_toArray, List.set_cons_zero, List.set_cons_succ]
        refine wpAnyH_take (i := 5) (v := ?_) rfl (by kernel_rfl) (by kernel_rfl) (by kernel_rfl) (fun _ _ _ h => h) (Or.inl ⟨by kernel_rfl, ?_⟩) (by assumption) ?_
        rotate_left
        focus (intro w hSw; (try dsimp only at hSw); go_simp; (try with_reducible rfl); done)
        try simp only [Act.put, List.getElem_toArray, List.getElem_cons_zero, List.getElem_cons_succ, List.setIfInBounds_toArray, List.set_cons_zero, List.set_cons_succ]
        refine wpAnyH_take (i := 6) (v := ?_) rfl (by kernel_rfl) (by kernel_rfl) (by kernel_rfl) (fun _ _ _ h => h) (Or.inl ⟨by kernel_rfl, ?_⟩) (by assumption) ?_
        rotate_left
        focus (intro w hSw; (try dsimp only at hSw); go_simp; (try with_reducible rfl); done)
        try simp only [Act.put, List.getElem_toArray, List.getElem_cons_zero, List.getElem_cons_succ, List.setIfInBounds_toArray, List.set_cons_zero, List.set_cons_succ]
        refine wpAnyH_ready (rs := [1, 7]) (by kernel_rfl) (by simp) ?_
        refine AllReadyH.cons rfl (fun K hK => ?_) (AllReadyH.cons rfl (fun K hK => ?_) AllReadyH.nil)
        · skip
          go_simp
          refine hK.out _ _ (by (try dsimp only); first | with_reducible exact ⟨z1, z2, z3, z4⟩ | with_reducible exact ⟨m1 _, m2 _, m3 _, m4 _⟩ | (simp [go_sem, r1, d0, d1, d2]; done) | (simp [go_sem, z1, z2, z3, z4, nb1, nb2]; done)) (fun hHeld => ?_)
          clear hK K
          try simp only [Act.put, List.getElem_toArray, List.getElem_cons_zero, List.getElem_cons_succ, List.setIfInBounds_toArray, List.set_cons_zero, List.set_cons_succ]
          refine wpAnyH_ready (rs := [7]) (by kernel_rfl) (by simp) ?_
          refine AllReadyH.cons rfl (fun K hK => ?_) AllReadyH.nil
          go_simp
          refine hK.out _ _ (by (try dsimp only); first | with_reducible exact ⟨z1, z2, z3, z4⟩ | with_reducible exact ⟨m1 _, m2 _, m3 _, m4 _⟩ | (simp [go_sem, r1, d0, d1, d2]; done) | (simp [go_sem, z1, z2, z3, z4, nb1, nb2]; done)) (fun hHeld => ?_)
          clear hK K
          try simp only [Act.put, List.getElem_toArray, List.getElem_cons_zero, List.getElem_cons_succ, List.setIfInBounds_toArray, List.set_cons_zero, List.set_cons_succ]
          refine wpAnyH_ready (rs := [8]) (by kernel_rfl) (by simp) ?_
          refine AllReadyH.cons rfl (fun K hK => ?_) AllReadyH.nil
          refine step_append_rows _ rfl (.tmp 35) (.tmp 41) 22 86 (.agg #[.int .i64 0, .slice none 0 0, .int .i64 0]) 3 40 rfl Try.underlying22 Try.info86 rfl (by decide) (N + 3) (.slice a ql c) (q.map frow) rfl HA1.out _ [[.int .i64 yi, .slice ad dn cd, .int .i64 ys]] rfl (HA2.out _) HA3.out HA4.out.1 HA4.out.2 HA5.out ?_
          intro v6 w6 o6 g6
          obtain ⟨a6, c6, e6, tt, tf, z1, z2, z3, z4, hz⟩ := HG.out _ _ g6 o6
          subst e6
          refine hK.out _ _ (by (try dsimp only); first | with_reducible exact ⟨z1, z2, z3, z4⟩ | with_reducible exact ⟨m1 _, m2 _, m3 _, m4 _⟩ | (simp [go_sem, r1, d0, d1, d2]; done) | (simp [go_sem, z1, z2, z3, z4, nb1, nb2]; done)) (fun hHeld => ?_)
          clear hK K
          try simp only [Act.put, List.getElem_toArray, List.getElem_cons_zero, List.getElem_cons_succ, List.setIfInBounds_toArray, List.set_cons_zero, List.set_cons_succ]
          refine wpAnyH_take (i := 9) (v := ?_) rfl (by kernel_rfl) (by kernel_rfl) (by kernel_rfl) (fun _ _ _ h => h) (Or.inl ⟨by kernel_rfl, ?_⟩) (by assumption) ?_
          rotate_left
          focus (intro w hSw; (try dsimp only at hSw); go_simp; (try with_reducible rfl); done)
          try simp only [Act.put, List.getElem_toArray, List.getElem_cons_zero, List.getElem_cons_succ, List.setIfInBounds_toArray, List.set_cons_zero, List.set_cons_succ]
          refine wpAnyH_ready (rs := [10]) (by kernel_rfl) (by simp) ?_
          refine AllReadyH.cons rfl (fun K hK => ?_) AllReadyH.nil
          go_simp
          refine hK.out _ _ (by (try dsimp only); first | with_reducible exact ⟨z1, z2, z3, z4⟩ | with_reducible exact ⟨m1 _, m2 _, m3 _, m4 _⟩ | (simp [go_sem, r1, d0, d1, d2]; done) | (simp [go_sem, z1, z2, z3, z4, nb1, nb2]; done)) (fun hHeld => ?_)
          clear hK K
          try simp only [Act.put, List.getElem_toArray, List.getElem_cons_zero, List.getElem_cons_succ, List.setIfInBounds_toArray, List.set_cons_zero, List.set_cons_succ]
          refine wpAnyH_done (by kernel_rfl) ?_ _
          clear m1 m2 m3 m4 e1 t1 r1 d0 d1 d2 z1 z2 z3 z4 tt tf g6 o6
          have HT3 : Hid ((w6.setCell ⟨N + 2, 1, none⟩ (.slice a6 (ql + 1) c6)).heap[N + 2]? = some (.cells #[.int .i64 s.cap, .slice a6 (q ++ [((.slice ad dn cd, yi, yd, ys) : FRow)]).length c6, .slice an s.names.length cn, .slice as' s.safe.length cs', .int .i64 s.next] 25)) := by
            have h := hz.out.1
            rw [HQl.out] at h ⊢
            rw [List.length_append]
            exact h
          have HR3 : Hid (OwnR (w6.setCell ⟨N + 2, 1, none⟩ (.slice a6 (ql + 1) c6)) (N + 3) 86 3 (.slice a6 (q ++ [((.slice ad dn cd, yi, yd, ys) : FRow)]).length c6) ((q ++ [((.slice ad dn cd, yi, yd, ys) : FRow)]).map frow)) := by
            have h := hz.out.2.1
            rw [HQl.out] at h ⊢
            rw [List.length_append]
            exact h
          have HW3 := hz.out.2.2
          replace HW3 : Hid (Below (N + 2) wz (w6.setCell ⟨N + 2, 1, none⟩ (.slice a6 (ql + 1) c6))) := HW3
          clear hz
          go_wp2_with fail
          exact ⟨⟨k + 1, _, a6, c6, by omega, by go_num, HQ2, HT3, HR3, HW3⟩, by simp [intOf]; omega⟩
        · skip
          go_simp
          refine hK.out _ _ (by (try dsimp only); first | with_reducible exact ⟨z1, z2, z3, z4⟩ | with_reducible exact ⟨m1 _, m2 _, m3 _, m4 _⟩ | (simp [go_sem, r1, d0, d1, d2]; done) | (simp [go_sem, z1, z2, z3, z4, nb1, nb2]; done)) (fun hHeld => ?_)
          clear hK K
          try simp only [Act.put, List.getElem_toArray, List.getElem_cons_zero, List.getElem_cons_succ, List.setIfInBounds_toArray, List.set_cons_zero, List.set_cons_succ]
          refine wpAnyH_ready (rs := [1]) (by kernel_rfl) (by simp) ?_
          refine AllReadyH.cons rfl (fun K hK => ?_) AllReadyH.nil
          go_simp
          refine hK.out _ _ (by (try dsimp only); first | with_reducible exact ⟨z1, z2, z3, z4⟩ | with_reducible exact ⟨m1 _, m2 _, m3 _, m4 _⟩ | (simp [go_sem, r1, d0, d1, d2]; done) | (simp [go_sem, z1, z2, z3, z4, nb1, nb2]; done)) (fun hHeld => ?_)
          clear hK K
          try simp only [Act.put, List.getElem_toArray, List.getElem_cons_zero, List.getElem_cons_succ, List.setIfInBounds_toArray, List.set_cons_zero, List.set_cons_succ]
          refine wpAnyH_ready (rs := [8]) (by kernel_rfl) (by simp) ?_
          refine AllReadyH.cons rfl (fun K hK => ?_) AllReadyH.nil
          refine step_append_rows _ rfl (.tmp 35) (.tmp 41) 22 86 (.agg #[.int .i64 0, .slice none 0 0, .int .i64 0]) 3 40 rfl Try.underlying22 Try.info86 rfl (by decide) (N + 3) (.slice a ql c) (q.map frow) rfl HA1.out _ [[.int .i64 yi, .slice ad dn cd, .int .i64 ys]] rfl (HA2.out _) HA3.out HA4.out.1 HA4.out.2 HA5.out ?_
          intro v6 w6 o6 g6
          obtain ⟨a6, c6, e6, tt, tf, z1, z2, z3, z4, hz⟩ := HG.out _ _ g6 o6
          subst e6
          refine hK.out _ _ (by (try dsimp only); first | with_reducible exact ⟨z1, z2, z3, z4⟩ | with_reducible exact ⟨m1 _, m2 _, m3 _, m4 _⟩ | (simp [go_sem, r1, d0, d1, d2]; done) | (simp [go_sem, z1, z2, z3, z4, nb1, nb2]; done)) (fun hHeld => ?_)
          clear hK K
          try simp only [Act.put, List.getElem_toArray, List.getElem_cons_zero, List.getElem_cons_succ, List.setIfInBounds_toArray, List.set_cons_zero, List.set_cons_succ]
          refine wpAnyH_take (i := 9) (v := ?_) rfl (by kernel_rfl) (by kernel_rfl) (by kernel_rfl) (fun _ _ _ h => h) (Or.inl ⟨by kernel_rfl, ?_⟩) (by assumption) ?_
          rotate_left
          focus (intro w hSw; (try dsimp only at hSw); go_simp; (try with_reducible rfl); done)
          try simp only [Act.put, List.getElem_toArray, List.getElem_cons_zero, List.getElem_cons_succ, List.setIfInBounds_toArray, List.set_cons_zero, List.set_cons_succ]
          refine wpAnyH_ready (rs := [10]) (by kernel_rfl) (by simp) ?_
          refine AllReadyH.cons rfl (fun K hK => ?_) AllReadyH.nil
          go_simp
          refine hK.out _ _ (by (try dsimp only); first | with_reducible exact ⟨z1, z2, z3, z4⟩ | with_reducible exact ⟨m1 _, m2 _, m3 _, m4 _⟩ | (simp [go_sem, r1, d0, d1, d2]; done) | (simp [go_sem, z1, z2, z3, z4, nb1, nb2]; done)) (fun hHeld => ?_)
          clear hK K
          try simp only [Act.put, List.getElem_toArray, List.getElem_cons_zero, List.getElem_cons_succ, List.setIfInBounds_toArray, List.set_cons_zero, List.set_cons_succ]
          refine wpAnyH_done (by kernel_rfl) ?_ _
          clear m1 m2 m3 m4 e1 t1 r1 d0 d1 d2 z1 z2 z3 z4 tt tf g6 o6
          have HT3 : Hid ((w6.setCell ⟨N + 2, 1, none⟩ (.slice a6 (ql + 1) c6)).heap[N + 2]? = some (.cells #[.int .i64 s.cap, .slice a6 (q ++ [((.slice ad dn cd, yi, yd, ys) : FRow)]).length c6, .slice an s.names.length cn, .slice as' s.safe.length cs', .int .i64 s.next] 25)) := by
            have h := hz.out.1
            rw [HQl.out] at h ⊢
            rw [List.length_append]
            exact h
          have HR3 : Hid (OwnR (w6.setCell ⟨N + 2, 1, none⟩ (.slice a6 (ql + 1) c6)) (N + 3) 86 3 (.slice a6 (q ++ [((.slice ad dn cd, yi, yd, ys) : FRow)]).length c6) ((q ++ [((.slice ad dn cd, yi, yd, ys) : FRow)]).map frow)) := by
            have h := hz.out.2.1
            rw [HQl.out] at h ⊢
            rw [List.length_append]
            exact h
          have HW3 := hz.out.2.2
          replace HW3 : Hid (Below (N + 2) wz (w6.setCell ⟨N + 2, 1, none⟩ (.slice a6 (ql + 1) c6))) := HW3
          clear hz
          go_wp2_with fail
          exact ⟨⟨k + 1, _, a6, c6, by omega, by go_num, HQ2, HT3, HR3, HW3⟩, by simp [intOf]; omega⟩
    · have hlt' : ¬ (k : Int) < (m.length : Int) := by omega
      obtain rfl : k = m.length := by omega
      rw [List.take_length] at HQ
      have HV : Hid (OwnU wr base (.agg #[.int .i64 s.cap, .slice a q.length c, .slice an s.names.length cn, .slice as' s.safe.length cs', .int .i64 s.next]) (sweptOf s)) := by
        have of := HOf.out.up UR.out
        have hb3 : base ≤ N + 3 := by have := HSz.out.2; omega
        refine ⟨_, _, _, q, rfl, ?_, ⟨HR.out.mono hb3, ?_, ?_⟩, HOn.out.1.up UR.out, HOn.out.2.1.up UR.out, HOn.out.2.2.1, HOn.out.2.2.2.1, HOn.out.2.2.2.2⟩
        · rw [HQ.out]
          show _ = (sweptOf s).files
          unfold sweptOf
          simp only
          rw [← HM.out, List.filter_map, HP.out]
          rfl
        · intro y hy
          rw [HQ.out] at hy
          exact of.2.1 y (List.mem_filter.1 hy).1
        · rw [HQ.out]
          exact of.2.2.sublist List.filter_sublist
      obtain ⟨t0, t1, t2, t3, t4⟩ := box_cells HT.out
      obtain ⟨x0, x1, x2, x3, x4⟩ := box_cells bR.out
      have f0 := blk_frozen bR.out 0
      have f1 := blk_frozen bR.out 1
      have f2 := blk_frozen bR.out 2
      have f3 := blk_frozen bR.out 3
      have f4 := blk_frozen bR.out 4
      have b5 := set5_blk bR.out (.int .i64 s.cap) (.slice a q.length c) (.slice an s.names.length cn) (.slice as' s.safe.length cs') (.int .i64 s.next)
      have HV5 : Hid (OwnU (set5 wr (N + 1) (.int .i64 s.cap) (.slice a q.length c) (.slice an s.names.length cn) (.slice as' s.safe.length cs') (.int .i64 s.next)) base (.agg #[.int .i64 s.cap, .slice a q.length c, .slice an s.names.length cn, .slice as' s.safe.length cs', .int .i64 s.next]) (sweptOf s)) := (HV.out.put bR.out).2
      obtain ⟨q0, q1, q2, q3, q4⟩ := box_cells bN.out
      go_wp2_with fail
      refine bodyPost_ret (results_docs rfl _ _ rfl b5) rfl ?_
      refine ⟨_, rfl, HV5.out, ?_⟩
      exact UR.out.grown (set5_grown _ _ _ _ _ _ _) UR.out.size (fun j hj => by injection hj with hj; rw [← hj]; have := HSz.out.2; omega)
end Go.Proofs.Ytoceddpjkodfkaa

/- The document's Do: states that may not be, acts that are none. -/
namespace Go.Proofs.Ytoceddpjkodfkaa
open Go.RowKit
set_option linter.unusedVariables false
set_option linter.unusedSimpArgs false

/-- The place of the file that an act names. -/
def filR (s : St) (a : Ac) : Nat := (fileOf s.files (nameAt s.names (findOf s.names a.name).toNat).2).toNat

/-- What the document's Do makes of a state, and its error. -/
def doR (s : St) (a : Ac) : St × Int :=
  if checkP s = false then (z0, 9) else if a.what < 1 ∨ 6 < a.what then (z0, 22) else
  if a.what = 1 then
    (if mayOf a.name = false then (z0, 31) else if 0 ≤ findOf s.names a.name then (z0, 6) else if (256 : Int) ≤ (s.files.length : Int) ∨ 2147483647 ≤ s.next then (z0, 51) else
      ({ s with files := s.files ++ [(s.next, [], 0)], names := withOf s.names (a.name, s.next), next := s.next + 1 }, 0))
  else if a.what = 6 then (sweptOf { s with safe := s.names }, 0)
  else if findOf s.names a.name < 0 then (z0, 71)
  else if a.what = 2 then (if s.cap - usedOf s.files < (a.data.length : Int) then (z0, 51) else (sweptOf { s with files := s.files.set (filR s a) ((fileD s (filR s a)).1, (fileD s (filR s a)).2.1 ++ a.data, (fileD s (filR s a)).2.2) }, 0))
  else if a.what = 3 then (sweptOf { s with files := s.files.set (filR s a) ((fileD s (filR s a)).1, (fileD s (filR s a)).2.1, ((fileD s (filR s a)).2.1.length : Int)) }, 0)
  else if a.what = 4 then (if mayOf a.dest = false then (z0, 31) else if a.dest = a.name then (sweptOf s, 0) else (sweptOf { s with names := withOf (withoutOf (withoutOf s.names a.name) a.dest) (a.dest, (nameAt s.names (findOf s.names a.name).toNat).2) }, 0))
  else (sweptOf { s with names := withoutOf s.names a.name }, 0)

set_option maxHeartbeats 8000000 in
set_option maxRecDepth 4000 in
theorem refDo_bad (s : St) (a : Ac) (v va : Value) (w : World) (hv : StW w v s) (ha : AcW w va a) (hc : checkP s = false) :
    Calls Try.prog 12 #[v, va] w fun e w' => ∃ v', e = .returned (.tuple #[v', .int .i64 (doR s a).2]) ∧ OwnU w' w.heap.size v' (doR s a).1 ∧ Below w.heap.size w w' := by
  have HR : Hid (doR s a = (z0, 9)) := by unfold Hid doR; rw [if_pos hc]
  obtain ⟨af, cf, an, cn, as', cs', rfl⟩ := hv.form
  obtain ⟨what, name, dest, data⟩ := a
  obtain ⟨vd, rfl, hd, hok⟩ := ha
  obtain ⟨ad, cd, evd, _⟩ := hd.slice
  simp only at evd hd hok
  subst evd
  unfold okAc at hok
  simp only at hok
  obtain ⟨ho1, ho2, ho3, ho4, ho5, ho6⟩ := hok
  simp only at *
  have HV : Hid (StW w (.agg #[.int .i64 s.cap, .slice af s.files.length cf, .slice an s.names.length cn, .slice as' s.safe.length cs', .int .i64 s.next]) s) := hv
  have HD : Hid (Octs w (.slice ad data.length cd) data) := hd
  have HN1 : Hid (OctL name ∧ name.length ≤ 140737488355328) := ⟨ho2, ho3⟩
  have HN2 : Hid (OctL dest ∧ dest.length ≤ 140737488355328) := ⟨ho4, ho5⟩
  obtain ⟨N, hN⟩ : ∃ N, N = w.heap.size := ⟨_, rfl⟩
  obtain ⟨wx, hwx⟩ : ∃ wx, wx = ((w.alloc (.cells #[.int .i64 s.cap, .slice af s.files.length cf, .slice an s.names.length cn, .slice as' s.safe.length cs', .int .i64 s.next] 25)).alloc (.cells #[.int .i64 what, .string (strOfNums name), .string (strOfNums dest), .slice ad data.length cd] 28)).alloc (.cells #[.int .i64 0, .slice none 0 0, .slice none 0 0, .slice none 0 0, .int .i64 0] 25) := ⟨_, rfl⟩
  have HWx : Hid (((w.alloc (.cells #[.int .i64 s.cap, .slice af s.files.length cf, .slice an s.names.length cn, .slice as' s.safe.length cs', .int .i64 s.next] 25)).alloc (.cells #[.int .i64 what, .string (strOfNums name), .string (strOfNums dest), .slice ad data.length cd] 28)).alloc (.cells #[.int .i64 0, .slice none 0 0, .slice none 0 0, .slice none 0 0, .int .i64 0] 25) = wx) := hwx.symm
  have b0 : wx.heap[N]? = some (.cells #[.int .i64 s.cap, .slice af s.files.length cf, .slice an s.names.length cn, .slice as' s.safe.length cs', .int .i64 s.next] 25) := by rw [hwx, hN]; exact blk_up (blk_two0 w _ _) (up_al (Below.refl _ _) _)
  have b1 : wx.heap[N + 1]? = some (.cells #[.int .i64 what, .string (strOfNums name), .string (strOfNums dest), .slice ad data.length cd] 28) := by rw [hwx, hN]; exact blk_up (blk_two1 w _ _) (up_al (Below.refl _ _) _)
  have b2 : wx.heap[N + 2]? = some (.cells #[.int .i64 0, .slice none 0 0, .slice none 0 0, .slice none 0 0, .int .i64 0] 25) := by
    rw [hwx, hN]
    have := blk_new ((w.alloc (.cells #[.int .i64 s.cap, .slice af s.files.length cf, .slice an s.names.length cn, .slice as' s.safe.length cs', .int .i64 s.next] 25)).alloc (.cells #[.int .i64 what, .string (strOfNums name), .string (strOfNums dest), .slice ad data.length cd] 28)) (.cells #[.int .i64 0, .slice none 0 0, .slice none 0 0, .slice none 0 0, .int .i64 0] 25)
    simpa using this
  have UX : Hid (Below w.heap.size w wx) := by rw [hwx]; exact up_al (up_al (up_al (Below.refl _ _) _) _) _
  have HN : Hid (N = w.heap.size) := hN
  clear hv hd hwx
  go_enter Try.func12, Try.ntmps12
  go_wp2_with fail
  rw [HWx.out, ← hN]
  clear HWx hN
  refine (refCheck_any s _ wx (HV.out.up UX.out)).mono ?_
  rintro e w1 ⟨rfl, u⟩
  have U1 : Hid (Below w.heap.size w w1) := up_trans UX.out u
  have B0 := blk_up b0 u
  have B1 := blk_up b1 u
  have B2 := blk_up b2 u
  clear b0 b1 b2 u UX
  rw [hc]
  have e9 : errOf false = 9 := rfl
  rw [e9]
  clear e9 hc
  obtain ⟨x0, x1, x2, x3, x4⟩ := box_cells B2
  have f0 := blk_frozen B2 0
  have f1 := blk_frozen B2 1
  have f2 := blk_frozen B2 2
  have f3 := blk_frozen B2 3
  have f4 := blk_frozen B2 4
  have b5 := set5_blk B2 (.int .i64 0) (.slice none 0 0) (.slice none 0 0) (.slice none 0 0) (.int .i64 0)
  clear B2
  go_wp2_with fail
  refine bodyPost_ret (results_docs1 rfl _ _ rfl rfl b5) rfl ?_
  rw [HR.out]
  exact ⟨_, rfl, OwnU.zero _ _ 0 0 in64_0 in64_0, U1.out.grown (set5_grown _ _ _ _ _ _ _) U1.out.size (fun j hj => by injection hj with hj; rw [← hj, HN.out]; omega)⟩

set_option maxHeartbeats 8000000 in
set_option maxRecDepth 4000 in
theorem refDo_kind (s : St) (a : Ac) (v va : Value) (w : World) (hv : StW w v s) (ha : AcW w va a) (hc : checkP s = true) (hk : a.what < 1 ∨ 6 < a.what) :
    Calls Try.prog 12 #[v, va] w fun e w' => ∃ v', e = .returned (.tuple #[v', .int .i64 (doR s a).2]) ∧ OwnU w' w.heap.size v' (doR s a).1 ∧ Below w.heap.size w w' := by
  have HR : Hid (doR s a = (z0, 22)) := by unfold Hid doR; rw [if_neg (by rw [hc]; decide), if_pos hk]
  obtain ⟨af, cf, an, cn, as', cs', rfl⟩ := hv.form
  obtain ⟨what, name, dest, data⟩ := a
  obtain ⟨vd, rfl, hd, hok⟩ := ha
  obtain ⟨ad, cd, evd, _⟩ := hd.slice
  simp only at evd hd hok
  subst evd
  unfold okAc at hok
  simp only at hok
  obtain ⟨ho1, ho2, ho3, ho4, ho5, ho6⟩ := hok
  simp only at hk
  have HV : Hid (StW w (.agg #[.int .i64 s.cap, .slice af s.files.length cf, .slice an s.names.length cn, .slice as' s.safe.length cs', .int .i64 s.next]) s) := hv
  have HD : Hid (Octs w (.slice ad data.length cd) data) := hd
  have HN1 : Hid (OctL name ∧ name.length ≤ 140737488355328) := ⟨ho2, ho3⟩
  have HN2 : Hid (OctL dest ∧ dest.length ≤ 140737488355328) := ⟨ho4, ho5⟩
  obtain ⟨N, hN⟩ : ∃ N, N = w.heap.size := ⟨_, rfl⟩
  obtain ⟨wx, hwx⟩ : ∃ wx, wx = ((w.alloc (.cells #[.int .i64 s.cap, .slice af s.files.length cf, .slice an s.names.length cn, .slice as' s.safe.length cs', .int .i64 s.next] 25)).alloc (.cells #[.int .i64 what, .string (strOfNums name), .string (strOfNums dest), .slice ad data.length cd] 28)).alloc (.cells #[.int .i64 0, .slice none 0 0, .slice none 0 0, .slice none 0 0, .int .i64 0] 25) := ⟨_, rfl⟩
  have HWx : Hid (((w.alloc (.cells #[.int .i64 s.cap, .slice af s.files.length cf, .slice an s.names.length cn, .slice as' s.safe.length cs', .int .i64 s.next] 25)).alloc (.cells #[.int .i64 what, .string (strOfNums name), .string (strOfNums dest), .slice ad data.length cd] 28)).alloc (.cells #[.int .i64 0, .slice none 0 0, .slice none 0 0, .slice none 0 0, .int .i64 0] 25) = wx) := hwx.symm
  have b0 : wx.heap[N]? = some (.cells #[.int .i64 s.cap, .slice af s.files.length cf, .slice an s.names.length cn, .slice as' s.safe.length cs', .int .i64 s.next] 25) := by rw [hwx, hN]; exact blk_up (blk_two0 w _ _) (up_al (Below.refl _ _) _)
  have b1 : wx.heap[N + 1]? = some (.cells #[.int .i64 what, .string (strOfNums name), .string (strOfNums dest), .slice ad data.length cd] 28) := by rw [hwx, hN]; exact blk_up (blk_two1 w _ _) (up_al (Below.refl _ _) _)
  have b2 : wx.heap[N + 2]? = some (.cells #[.int .i64 0, .slice none 0 0, .slice none 0 0, .slice none 0 0, .int .i64 0] 25) := by
    rw [hwx, hN]
    have := blk_new ((w.alloc (.cells #[.int .i64 s.cap, .slice af s.files.length cf, .slice an s.names.length cn, .slice as' s.safe.length cs', .int .i64 s.next] 25)).alloc (.cells #[.int .i64 what, .string (strOfNums name), .string (strOfNums dest), .slice ad data.length cd] 28)) (.cells #[.int .i64 0, .slice none 0 0, .slice none 0 0, .slice none 0 0, .int .i64 0] 25)
    simpa using this
  have UX : Hid (Below w.heap.size w wx) := by rw [hwx]; exact up_al (up_al (up_al (Below.refl _ _) _) _) _
  have HN : Hid (N = w.heap.size) := hN
  clear hv hd hwx
  go_enter Try.func12, Try.ntmps12
  go_wp2_with fail
  rw [HWx.out, ← hN]
  clear HWx hN
  refine (refCheck_any s _ wx (HV.out.up UX.out)).mono ?_
  rintro e w1 ⟨rfl, u⟩
  have U1 : Hid (Below w.heap.size w w1) := up_trans UX.out u
  have B0 := blk_up b0 u
  have B1 := blk_up b1 u
  have B2 := blk_up b2 u
  clear b0 b1 b2 u UX
  have HG : Hid (Good s) := check_good hc
  rw [hc]
  have e0 : errOf true = 0 := rfl
  rw [e0]
  clear e0
  obtain ⟨q0, q1, q2, q3, q4⟩ := box_cells B0
  have a0 := blk_cell B1 0 _ rfl
  have a1 := blk_cell B1 1 _ rfl
  have a2 := blk_cell B1 2 _ rfl
  have a3 := blk_cell B1 3 _ rfl
  clear hc
  rcases hk with hk | hk
  · skip
    obtain ⟨x0, x1, x2, x3, x4⟩ := box_cells B2
    have f0 := blk_frozen B2 0
    have f1 := blk_frozen B2 1
    have f2 := blk_frozen B2 2
    have f3 := blk_frozen B2 3
    have f4 := blk_frozen B2 4
    have b5 := set5_blk B2 (.int .i64 0) (.slice none 0 0) (.slice none 0 0) (.slice none 0 0) (.int .i64 0)
    clear B2
    go_wp2_with fail
    refine bodyPost_ret (results_docs1 rfl _ _ rfl rfl b5) rfl ?_
    rw [HR.out]
    exact ⟨_, rfl, OwnU.zero _ _ 0 0 in64_0 in64_0, U1.out.grown (set5_grown _ _ _ _ _ _ _) U1.out.size (fun j hj => by injection hj with hj; rw [← hj, HN.out]; omega)⟩
  · have hk1 : ¬ what < 1 := by omega
    obtain ⟨x0, x1, x2, x3, x4⟩ := box_cells B2
    have f0 := blk_frozen B2 0
    have f1 := blk_frozen B2 1
    have f2 := blk_frozen B2 2
    have f3 := blk_frozen B2 3
    have f4 := blk_frozen B2 4
    have b5 := set5_blk B2 (.int .i64 0) (.slice none 0 0) (.slice none 0 0) (.slice none 0 0) (.int .i64 0)
    clear B2
    go_wp2_with fail
    refine bodyPost_ret (results_docs1 rfl _ _ rfl rfl b5) rfl ?_
    rw [HR.out]
    exact ⟨_, rfl, OwnU.zero _ _ 0 0 in64_0 in64_0, U1.out.grown (set5_grown _ _ _ _ _ _ _) U1.out.size (fun j hj => by injection hj with hj; rw [← hj, HN.out]; omega)⟩

end Go.Proofs.Ytoceddpjkodfkaa

/- The document's Do: names made safe. -/
namespace Go.Proofs.Ytoceddpjkodfkaa
open Go.RowKit
set_option linter.unusedVariables false
set_option linter.unusedSimpArgs false

theorem OwnT.at {w : World} {base B : Nat} {s : St} {a b c d e : Value} (h : OwnT w base B s) (hb : w.heap[B]? = some (.cells #[a, b, c, d, e] 25)) : OwnU w base (.agg #[a, b, c, d, e]) s := by
  obtain ⟨vf, vn, vs, hb2, ou⟩ := h.take
  rw [hb] at hb2
  simp at hb2
  obtain ⟨rfl, rfl, rfl, rfl, rfl⟩ := hb2
  exact ou

/-- What lies below what a call owns is kept beside it. -/
theorem Beside.low {base B : Nat} {w w' : World} (h : Beside base B w w') (hB : base ≤ B) {k : Nat} (hk : k < base) {o : Obj} (ho : w.heap[k]? = some o) : w'.heap[k]? = some o := (h.block k hk (by omega)).trans ho

set_option maxHeartbeats 8000000 in
set_option maxRecDepth 4000 in
theorem refDo_six (s : St) (a : Ac) (v va : Value) (w : World) (hv : StW w v s) (ha : AcW w va a) (hc : checkP s = true) (hw : a.what = 6) :
    Calls Try.prog 12 #[v, va] w fun e w' => ∃ v', e = .returned (.tuple #[v', .int .i64 (doR s a).2]) ∧ OwnU w' w.heap.size v' (doR s a).1 ∧ Below w.heap.size w w' := by
  have HR : Hid (doR s a = (sweptOf { s with safe := s.names }, 0)) := by
    unfold Hid doR
    rw [if_neg (by rw [hc]; decide), if_neg (by omega), if_neg (by omega), if_pos hw]
  obtain ⟨af, cf, an, cn, as', cs', rfl⟩ := hv.form
  obtain ⟨what, name, dest, data⟩ := a
  obtain ⟨vd, rfl, hd, hok⟩ := ha
  obtain ⟨ad, cd, evd, _⟩ := hd.slice
  simp only at evd hd hok
  subst evd
  unfold okAc at hok
  simp only at hok
  obtain ⟨ho1, ho2, ho3, ho4, ho5, ho6⟩ := hok
  simp only at hw
  subst hw
  simp only
  have HV : Hid (StW w (.agg #[.int .i64 s.cap, .slice af s.files.length cf, .slice an s.names.length cn, .slice as' s.safe.length cs', .int .i64 s.next]) s) := hv
  have HD : Hid (Octs w (.slice ad data.length cd) data) := hd
  have HN1 : Hid (OctL name ∧ name.length ≤ 140737488355328) := ⟨ho2, ho3⟩
  have HN2 : Hid (OctL dest ∧ dest.length ≤ 140737488355328) := ⟨ho4, ho5⟩
  obtain ⟨N, hN⟩ : ∃ N, N = w.heap.size := ⟨_, rfl⟩
  obtain ⟨wx, hwx⟩ : ∃ wx, wx = ((w.alloc (.cells #[.int .i64 s.cap, .slice af s.files.length cf, .slice an s.names.length cn, .slice as' s.safe.length cs', .int .i64 s.next] 25)).alloc (.cells #[.int .i64 6, .string (strOfNums name), .string (strOfNums dest), .slice ad data.length cd] 28)).alloc (.cells #[.int .i64 0, .slice none 0 0, .slice none 0 0, .slice none 0 0, .int .i64 0] 25) := ⟨_, rfl⟩
  have HWx : Hid (((w.alloc (.cells #[.int .i64 s.cap, .slice af s.files.length cf, .slice an s.names.length cn, .slice as' s.safe.length cs', .int .i64 s.next] 25)).alloc (.cells #[.int .i64 6, .string (strOfNums name), .string (strOfNums dest), .slice ad data.length cd] 28)).alloc (.cells #[.int .i64 0, .slice none 0 0, .slice none 0 0, .slice none 0 0, .int .i64 0] 25) = wx) := hwx.symm
  have b0 : wx.heap[N]? = some (.cells #[.int .i64 s.cap, .slice af s.files.length cf, .slice an s.names.length cn, .slice as' s.safe.length cs', .int .i64 s.next] 25) := by rw [hwx, hN]; exact blk_up (blk_two0 w _ _) (up_al (Below.refl _ _) _)
  have b1 : wx.heap[N + 1]? = some (.cells #[.int .i64 6, .string (strOfNums name), .string (strOfNums dest), .slice ad data.length cd] 28) := by rw [hwx, hN]; exact blk_up (blk_two1 w _ _) (up_al (Below.refl _ _) _)
  have b2 : wx.heap[N + 2]? = some (.cells #[.int .i64 0, .slice none 0 0, .slice none 0 0, .slice none 0 0, .int .i64 0] 25) := by
    rw [hwx, hN]
    have := blk_new ((w.alloc (.cells #[.int .i64 s.cap, .slice af s.files.length cf, .slice an s.names.length cn, .slice as' s.safe.length cs', .int .i64 s.next] 25)).alloc (.cells #[.int .i64 6, .string (strOfNums name), .string (strOfNums dest), .slice ad data.length cd] 28)) (.cells #[.int .i64 0, .slice none 0 0, .slice none 0 0, .slice none 0 0, .int .i64 0] 25)
    simpa using this
  have UX : Hid (Below w.heap.size w wx) := by rw [hwx]; exact up_al (up_al (up_al (Below.refl _ _) _) _) _
  have HN : Hid (N = w.heap.size) := hN
  clear hv hd hwx
  go_enter Try.func12, Try.ntmps12
  go_wp2_with fail
  rw [HWx.out, ← hN]
  clear HWx hN
  refine (refCheck_any s _ wx (HV.out.up UX.out)).mono ?_
  rintro e w1 ⟨rfl, u⟩
  have U1 : Hid (Below w.heap.size w w1) := up_trans UX.out u
  have B0 := blk_up b0 u
  have B1 := blk_up b1 u
  have B2 := blk_up b2 u
  clear b0 b1 b2 u UX
  have HG : Hid (Good s) := check_good hc
  rw [hc]
  have e0 : errOf true = 0 := rfl
  rw [e0]
  clear e0
  obtain ⟨q0, q1, q2, q3, q4⟩ := box_cells B0
  have a0 := blk_cell B1 0 _ rfl
  have a1 := blk_cell B1 1 _ rfl
  have a2 := blk_cell B1 2 _ rfl
  have a3 := blk_cell B1 3 _ rfl
  have hfew := HG.out.few
  have hn1 := few_names HG.out.names
  have hn2 := few_names HG.out.safe
  go_wp2_with fail
  refine (refOwn_any s _ w1 (HV.out.up U1.out) hfew (by omega) (by omega)).mono ?_
  rintro e w2 ⟨v2, rfl, ou, u⟩
  obtain ⟨a2f, c2f, a2n, c2n, a2s, c2s, rfl⟩ := (StW.ownU ou).form
  have OT : Hid (OwnT (w2.alloc (.cells #[.int .i64 s.cap, .slice a2f s.files.length c2f, .slice a2n s.names.length c2n, .slice a2s s.safe.length c2s, .int .i64 s.next] 25)) w1.heap.size w2.heap.size s) := ou.laid
  have U2 : Hid (Below w1.heap.size w1 w2) := u
  have U3 : Hid (Below w1.heap.size w1 (w2.alloc (.cells #[.int .i64 s.cap, .slice a2f s.files.length c2f, .slice a2n s.names.length c2n, .slice a2s s.safe.length c2s, .int .i64 s.next] 25))) := up_al u _
  have T0 : (w2.alloc (.cells #[.int .i64 s.cap, .slice a2f s.files.length c2f, .slice a2n s.names.length c2n, .slice a2s s.safe.length c2s, .int .i64 s.next] 25)).heap[w2.heap.size]? = some (.cells #[.int .i64 s.cap, .slice a2f s.files.length c2f, .slice a2n s.names.length c2n, .slice a2s s.safe.length c2s, .int .i64 s.next] 25) := blk_new _ _
  have B1' := blk_up B1 U3.out
  have B2' := blk_up B2 U3.out
  have B0n := B2
  clear ou u B1 B2 B0 q0 q1 q2 q3 q4 a0 a1 a2 a3
  have t2 := blk_cell T0 2 _ rfl
  have a1 := blk_cell B1' 1 _ rfl
  go_wp2_with fail
  generalize w2.alloc (.cells #[.int .i64 s.cap, .slice a2f s.files.length c2f, .slice a2n s.names.length c2n, .slice a2s s.safe.length c2s, .int .i64 s.next] 25) = w3 at *
  have HNm : Hid (NamesW w3 (.slice a2n s.names.length c2n) s.names) := by
    obtain ⟨vf, vn, vs, hb, ou⟩ := OT.out.take
    rw [hb] at T0
    simp at T0
    obtain ⟨rfl, rfl, rfl⟩ := T0
    obtain ⟨_, _, _, _, e, _, _, on, _⟩ := ou
    simp at e
    obtain ⟨rfl, rfl, rfl⟩ := e
    exact NamesW.own on
  refine (refFind_any s.names name HN1.out.1 _ w3 HNm.out).mono ?_
  rintro e w4 ⟨rfl, hw4⟩
  have hw4' : w3 = w4 := hw4.symm
  clear hw4
  subst hw4'
  have U03 : Hid (Below w.heap.size w w3) := up_trans U1.out U3.out
  obtain ⟨T, hT⟩ : ∃ T, T = w2.heap.size := ⟨_, rfl⟩
  rw [← hT] at OT T0 t2 ⊢
  have HTb : Hid (w1.heap.size ≤ T) := by rw [hT]; exact U2.out.size
  clear hT U2
  have HB1 : Hid (N + 3 ≤ w1.heap.size) := by
    have := blk_lt B0n
    unfold Hid
    omega
  clear B0n
  have hb3 : w1.heap.size ≤ w3.heap.size := U3.out.size
  obtain ⟨fd, hfd⟩ : ∃ fd, fd = findOf s.names name := ⟨_, rfl⟩
  have HFd : Hid (fd = findOf s.names name) := hfd
  rw [← hfd]
  clear hfd t2 a1
  have hfd1 := (placeOf_ge (fun p => decide (p.1 = name)) s.names)
  have hfd2 : -1 ≤ fd ∧ fd < (s.names.length : Int) := by rw [HFd.out]; exact hfd1
  clear hfd1
  obtain ⟨hfd1, hfd2⟩ := hfd2
  obtain ⟨af3, cf3, an3, cn3, as3, cs3, m, hO⟩ := OT.out.open
  have a0 := blk_cell B1' 0 _ rfl
  have t2 := blk_cell hO.2.1 2 _ rfl
  go_wp2_with fail
  refine (refOwnNames_any s.names _ w3 (NamesW.own hO.2.2.2.2.1) (by omega)).mono ?_
  rintro e w5 ⟨v5, rfl, on5, u5⟩
  obtain ⟨a5, c5, e5, _, _⟩ := (NamesW.own on5).len
  subst e5
  have st := hO.setSafe hb3 u5 on5
  obtain ⟨y0, y1, y2, y3, y4⟩ := box_cells st.1
  have yf := blk_frozen st.1 3
  have OU6 : Hid (OwnU (w5.setCell ⟨T, 3, none⟩ (.slice a5 s.names.length c5)) w1.heap.size (.agg #[.int .i64 s.cap, .slice af3 m.length cf3, .slice an3 s.names.length cn3, .slice a5 s.names.length c5, .int .i64 s.next]) { s with safe := s.names }) := st.2.1.at (blk_set st.1 3 _)
  have bR6 : Hid ((w5.setCell ⟨T, 3, none⟩ (.slice a5 s.names.length c5)).heap[N + 2]? = some (.cells #[.int .i64 0, .slice none 0 0, .slice none 0 0, .slice none 0 0, .int .i64 0] 25)) := st.2.2.low HTb.out (by have := HB1.out; omega) B2'
  have U6 : Hid (Below w.heap.size w (w5.setCell ⟨T, 3, none⟩ (.slice a5 s.names.length c5))) := U03.out.trans ((st.2.2.below HTb.out).mono U1.out.size)
  have hb6 : w1.heap.size ≤ (w5.setCell ⟨T, 3, none⟩ (.slice a5 s.names.length c5)).heap.size := Nat.le_trans hb3 st.2.2.size
  have HL6 : Hid (({ s with safe := s.names } : St).files.length ≤ 257) := by show s.files.length ≤ 257; omega
  clear st u5 on5 hO a0 t2
  go_wp2_with fail
  refine (refSwept_any { s with safe := s.names } w1.heap.size _ _ OU6.out HL6.out hb6).mono ?_
  rintro e w7 ⟨v7, rfl, ou7, u7⟩
  obtain ⟨a7, n7, c7, a8, n8, c8, a9, n9, c9, ev7⟩ := ou7.shape
  subst ev7
  have bR7 := blk_up bR6.out u7
  have U7 : Hid (Below w.heap.size w w7) := up_trans U6.out u7
  have HO7 : Hid (OwnU w7 w1.heap.size (.agg #[.int .i64 (sweptOf { s with safe := s.names }).cap, .slice a7 n7 c7, .slice a8 n8 c8, .slice a9 n9 c9, .int .i64 (sweptOf { s with safe := s.names }).next]) (sweptOf { s with safe := s.names })) := ou7
  clear ou7 u7
  obtain ⟨x0, x1, x2, x3, x4⟩ := box_cells bR7
  have f0 := blk_frozen bR7 0
  have f1 := blk_frozen bR7 1
  have f2 := blk_frozen bR7 2
  have f3 := blk_frozen bR7 3
  have f4 := blk_frozen bR7 4
  have b5 := set5_blk bR7 (.int .i64 (sweptOf { s with safe := s.names }).cap) (.slice a7 n7 c7) (.slice a8 n8 c8) (.slice a9 n9 c9) (.int .i64 (sweptOf { s with safe := s.names }).next)
  have HV5 : Hid (OwnU (set5 w7 (N + 2) (.int .i64 (sweptOf { s with safe := s.names }).cap) (.slice a7 n7 c7) (.slice a8 n8 c8) (.slice a9 n9 c9) (.int .i64 (sweptOf { s with safe := s.names }).next)) w1.heap.size (.agg #[.int .i64 (sweptOf { s with safe := s.names }).cap, .slice a7 n7 c7, .slice a8 n8 c8, .slice a9 n9 c9, .int .i64 (sweptOf { s with safe := s.names }).next]) (sweptOf { s with safe := s.names })) := (HO7.out.put bR7).2
  clear bR7
  go_wp2_with fail
  refine bodyPost_ret (results_docs1 rfl _ _ rfl rfl b5) rfl ?_
  rw [HR.out]
  exact ⟨_, rfl, HV5.out.mono U1.out.size, U7.out.grown (set5_grown _ _ _ _ _ _ _) U7.out.size (fun j hj => by injection hj with hj; rw [← hj, HN.out]; omega)⟩

end Go.Proofs.Ytoceddpjkodfkaa

/- The document's Do: a name removed. -/
namespace Go.Proofs.Ytoceddpjkodfkaa
open Go.RowKit
set_option linter.unusedVariables false
set_option linter.unusedSimpArgs false

set_option maxHeartbeats 8000000 in
set_option maxRecDepth 4000 in
theorem refDo_five (s : St) (a : Ac) (v va : Value) (w : World) (hv : StW w v s) (ha : AcW w va a) (hc : checkP s = true) (hw : a.what = 5) :
    Calls Try.prog 12 #[v, va] w fun e w' => ∃ v', e = .returned (.tuple #[v', .int .i64 (doR s a).2]) ∧ OwnU w' w.heap.size v' (doR s a).1 ∧ Below w.heap.size w w' := by
  have HRn : Hid (findOf s.names a.name < 0 → doR s a = (z0, 71)) := by
    intro h
    unfold doR
    rw [if_neg (by rw [hc]; decide), if_neg (by omega), if_neg (by omega), if_neg (by omega), if_pos h]
  have HRp : Hid (¬ findOf s.names a.name < 0 → Hid (doR s a = (sweptOf { s with names := withoutOf s.names a.name }, 0))) := by
    intro h
    unfold Hid doR
    rw [if_neg (by rw [hc]; decide), if_neg (by omega), if_neg (by omega), if_neg (by omega), if_neg h]
    rw [if_neg (by omega), if_neg (by omega), if_neg (by omega)]
  obtain ⟨af, cf, an, cn, as', cs', rfl⟩ := hv.form
  obtain ⟨what, name, dest, data⟩ := a
  obtain ⟨vd, rfl, hd, hok⟩ := ha
  obtain ⟨ad, cd, evd, _⟩ := hd.slice
  simp only at evd hd hok
  subst evd
  unfold okAc at hok
  simp only at hok
  obtain ⟨ho1, ho2, ho3, ho4, ho5, ho6⟩ := hok
  simp only at hw
  subst hw
  simp only
  have HV : Hid (StW w (.agg #[.int .i64 s.cap, .slice af s.files.length cf, .slice an s.names.length cn, .slice as' s.safe.length cs', .int .i64 s.next]) s) := hv
  have HD : Hid (Octs w (.slice ad data.length cd) data) := hd
  have HN1 : Hid (OctL name ∧ name.length ≤ 140737488355328) := ⟨ho2, ho3⟩
  have HN2 : Hid (OctL dest ∧ dest.length ≤ 140737488355328) := ⟨ho4, ho5⟩
  obtain ⟨N, hN⟩ : ∃ N, N = w.heap.size := ⟨_, rfl⟩
  obtain ⟨wx, hwx⟩ : ∃ wx, wx = ((w.alloc (.cells #[.int .i64 s.cap, .slice af s.files.length cf, .slice an s.names.length cn, .slice as' s.safe.length cs', .int .i64 s.next] 25)).alloc (.cells #[.int .i64 5, .string (strOfNums name), .string (strOfNums dest), .slice ad data.length cd] 28)).alloc (.cells #[.int .i64 0, .slice none 0 0, .slice none 0 0, .slice none 0 0, .int .i64 0] 25) := ⟨_, rfl⟩
  have HWx : Hid (((w.alloc (.cells #[.int .i64 s.cap, .slice af s.files.length cf, .slice an s.names.length cn, .slice as' s.safe.length cs', .int .i64 s.next] 25)).alloc (.cells #[.int .i64 5, .string (strOfNums name), .string (strOfNums dest), .slice ad data.length cd] 28)).alloc (.cells #[.int .i64 0, .slice none 0 0, .slice none 0 0, .slice none 0 0, .int .i64 0] 25) = wx) := hwx.symm
  have b0 : wx.heap[N]? = some (.cells #[.int .i64 s.cap, .slice af s.files.length cf, .slice an s.names.length cn, .slice as' s.safe.length cs', .int .i64 s.next] 25) := by rw [hwx, hN]; exact blk_up (blk_two0 w _ _) (up_al (Below.refl _ _) _)
  have b1 : wx.heap[N + 1]? = some (.cells #[.int .i64 5, .string (strOfNums name), .string (strOfNums dest), .slice ad data.length cd] 28) := by rw [hwx, hN]; exact blk_up (blk_two1 w _ _) (up_al (Below.refl _ _) _)
  have b2 : wx.heap[N + 2]? = some (.cells #[.int .i64 0, .slice none 0 0, .slice none 0 0, .slice none 0 0, .int .i64 0] 25) := by
    rw [hwx, hN]
    have := blk_new ((w.alloc (.cells #[.int .i64 s.cap, .slice af s.files.length cf, .slice an s.names.length cn, .slice as' s.safe.length cs', .int .i64 s.next] 25)).alloc (.cells #[.int .i64 5, .string (strOfNums name), .string (strOfNums dest), .slice ad data.length cd] 28)) (.cells #[.int .i64 0, .slice none 0 0, .slice none 0 0, .slice none 0 0, .int .i64 0] 25)
    simpa using this
  have UX : Hid (Below w.heap.size w wx) := by rw [hwx]; exact up_al (up_al (up_al (Below.refl _ _) _) _) _
  have HN : Hid (N = w.heap.size) := hN
  clear hv hd hwx
  go_enter Try.func12, Try.ntmps12
  go_wp2_with fail
  rw [HWx.out, ← hN]
  clear HWx hN
  refine (refCheck_any s _ wx (HV.out.up UX.out)).mono ?_
  rintro e w1 ⟨rfl, u⟩
  have U1 : Hid (Below w.heap.size w w1) := up_trans UX.out u
  have B0 := blk_up b0 u
  have B1 := blk_up b1 u
  have B2 := blk_up b2 u
  clear b0 b1 b2 u UX
  have HG : Hid (Good s) := check_good hc
  rw [hc]
  have e0 : errOf true = 0 := rfl
  rw [e0]
  clear e0
  obtain ⟨q0, q1, q2, q3, q4⟩ := box_cells B0
  have a0 := blk_cell B1 0 _ rfl
  have a1 := blk_cell B1 1 _ rfl
  have a2 := blk_cell B1 2 _ rfl
  have a3 := blk_cell B1 3 _ rfl
  have hfew := HG.out.few
  have hn1 := few_names HG.out.names
  have hn2 := few_names HG.out.safe
  go_wp2_with fail
  refine (refOwn_any s _ w1 (HV.out.up U1.out) hfew (by omega) (by omega)).mono ?_
  rintro e w2 ⟨v2, rfl, ou, u⟩
  obtain ⟨a2f, c2f, a2n, c2n, a2s, c2s, rfl⟩ := (StW.ownU ou).form
  have OT : Hid (OwnT (w2.alloc (.cells #[.int .i64 s.cap, .slice a2f s.files.length c2f, .slice a2n s.names.length c2n, .slice a2s s.safe.length c2s, .int .i64 s.next] 25)) w1.heap.size w2.heap.size s) := ou.laid
  have U2 : Hid (Below w1.heap.size w1 w2) := u
  have U3 : Hid (Below w1.heap.size w1 (w2.alloc (.cells #[.int .i64 s.cap, .slice a2f s.files.length c2f, .slice a2n s.names.length c2n, .slice a2s s.safe.length c2s, .int .i64 s.next] 25))) := up_al u _
  have T0 : (w2.alloc (.cells #[.int .i64 s.cap, .slice a2f s.files.length c2f, .slice a2n s.names.length c2n, .slice a2s s.safe.length c2s, .int .i64 s.next] 25)).heap[w2.heap.size]? = some (.cells #[.int .i64 s.cap, .slice a2f s.files.length c2f, .slice a2n s.names.length c2n, .slice a2s s.safe.length c2s, .int .i64 s.next] 25) := blk_new _ _
  have B1' := blk_up B1 U3.out
  have B2' := blk_up B2 U3.out
  have B0n := B2
  clear ou u B1 B2 B0 q0 q1 q2 q3 q4 a0 a1 a2 a3
  have t2 := blk_cell T0 2 _ rfl
  have a1 := blk_cell B1' 1 _ rfl
  go_wp2_with fail
  generalize w2.alloc (.cells #[.int .i64 s.cap, .slice a2f s.files.length c2f, .slice a2n s.names.length c2n, .slice a2s s.safe.length c2s, .int .i64 s.next] 25) = w3 at *
  have HNm : Hid (NamesW w3 (.slice a2n s.names.length c2n) s.names) := by
    obtain ⟨vf, vn, vs, hb, ou⟩ := OT.out.take
    rw [hb] at T0
    simp at T0
    obtain ⟨rfl, rfl, rfl⟩ := T0
    obtain ⟨_, _, _, _, e, _, _, on, _⟩ := ou
    simp at e
    obtain ⟨rfl, rfl, rfl⟩ := e
    exact NamesW.own on
  refine (refFind_any s.names name HN1.out.1 _ w3 HNm.out).mono ?_
  rintro e w4 ⟨rfl, hw4⟩
  have hw4' : w3 = w4 := hw4.symm
  clear hw4
  subst hw4'
  have U03 : Hid (Below w.heap.size w w3) := up_trans U1.out U3.out
  obtain ⟨T, hT⟩ : ∃ T, T = w2.heap.size := ⟨_, rfl⟩
  rw [← hT] at OT T0 t2 ⊢
  have HTb : Hid (w1.heap.size ≤ T) := by rw [hT]; exact U2.out.size
  clear hT U2
  have HB1 : Hid (N + 3 ≤ w1.heap.size) := by
    have := blk_lt B0n
    unfold Hid
    omega
  clear B0n
  have hb3 : w1.heap.size ≤ w3.heap.size := U3.out.size
  obtain ⟨fd, hfd⟩ : ∃ fd, fd = findOf s.names name := ⟨_, rfl⟩
  have HFd : Hid (fd = findOf s.names name) := hfd
  rw [← hfd]
  clear hfd t2 a1
  have hfd1 := (placeOf_ge (fun p => decide (p.1 = name)) s.names)
  have hfd2 : -1 ≤ fd ∧ fd < (s.names.length : Int) := by rw [HFd.out]; exact hfd1
  clear hfd1
  obtain ⟨hfd1, hfd2⟩ := hfd2
  have a0 := blk_cell B1' 0 _ rfl
  by_cases hneg : fd < 0
  · have HR : Hid (doR s ⟨5, name, dest, data⟩ = (z0, 71)) := HRn.out (by rw [← HFd.out]; exact hneg)
    obtain ⟨x0, x1, x2, x3, x4⟩ := box_cells B2'
    have f0 := blk_frozen B2' 0
    have f1 := blk_frozen B2' 1
    have f2 := blk_frozen B2' 2
    have f3 := blk_frozen B2' 3
    have f4 := blk_frozen B2' 4
    have b5 := set5_blk B2' (.int .i64 0) (.slice none 0 0) (.slice none 0 0) (.slice none 0 0) (.int .i64 0)
    clear B2'
    go_wp2_with fail
    refine bodyPost_ret (results_docs1 rfl _ _ rfl rfl b5) rfl ?_
    rw [HR.out]
    exact ⟨_, rfl, OwnU.zero _ _ 0 0 in64_0 in64_0, U03.out.grown (set5_grown _ _ _ _ _ _ _) U03.out.size (fun j hj => by injection hj with hj; rw [← hj, HN.out]; omega)⟩
  · obtain ⟨i, hi⟩ : ∃ i : Nat, fd = (i : Int) := ⟨fd.toNat, by omega⟩
    subst hi
    have hil : i < s.names.length := by omega
    have hi0 : (0 : Int) ≤ (i : Int) := by omega
    have HR := HRp.out (by rw [← HFd.out]; omega)
    have HFi : Hid ((findOf s.names name).toNat = i) := by rw [← HFd.out]; exact Int.toNat_natCast i
    obtain ⟨af3, cf3, an3, cn3, as3, cs3, m, hO⟩ := OT.out.open
    obtain ⟨b, off, cap', e, _, _, c0, c1, _⟩ := (NamesW.own hO.2.2.2.2.1).at i hil
    simp at e
    obtain ⟨rfl, rfl⟩ := e
    have HO : Hid (OpenT w3 w1.heap.size T s af3 cf3 (some ⟨b, off, none⟩) cn3 as3 cs3 m) := hO
    obtain ⟨id, hid⟩ : ∃ id, id = (s.names.getD i ([], 0)).2 := ⟨_, rfl⟩
    have HId : Hid (id = (nameAt s.names i).2) := hid
    rw [← hid] at c1
    clear hid
    have HFW : Hid (FilesW w3 (.slice af3 m.length cf3) s.files) := by
      unfold Hid
      rw [← hO.2.2.1]
      exact FilesW.ownG hO.2.2.2.1
    obtain ⟨t0, t1, t2, t3, t4⟩ := box_cells hO.2.1
    have p0 := cell_up t0
    have p1 := cell_up t1
    have p2 := cell_up t2
    have p3 := cell_up t3
    have p4 := cell_up t4
    have pc := cell_up c1
    obtain ⟨kk, hkk⟩ : ∃ kk, kk = fileOf s.files id := ⟨_, rfl⟩
    have HKk : Hid (kk = fileOf s.files id) := hkk
    clear hkk
    have HCF : Hid (∀ p : UpW w3, Calls Try.prog 40 #[.agg #[.int .i64 s.cap, .slice af3 m.length cf3, .slice (some ⟨b, off, none⟩) s.names.length cn3, .slice as3 s.safe.length cs3, .int .i64 s.next], .int .i64 id] p.val fun e w' => e = .returned (.int .i64 kk) ∧ Below p.val.heap.size p.val w') := by
      intro p
      rw [HKk.out]
      refine (refFile_any s.files id _ _ _ _ _ p.val (HFW.out.up p.up)).mono ?_
      rintro e w' ⟨rfl, rfl⟩
      exact ⟨rfl, up_alloc _ _⟩
    clear hO t0 t1 t2 t3 t4 c0 c1
    go_wp2_with fail
    refine wp_region_up (by kernel_rfl) (by kernel_rfl) ?_
    repeat
      (with_reducible refine wpQuiet_step (fun K hK => ?_)
       go_simp
       first
         | (refine hK _ ?_; clear hK K)
         | (apply Exists.intro; refine ⟨fun _ => ?_, hK _ ?_⟩; go_at_call 40; with_reducible refine calls_up (HCF.out _); clear hK K))
    with_reducible refine wpQuiet_nil ?_
    intro _ hw'
    obtain ⟨p, hw''⟩ := hw'
    subst hw''
    have HO2 : Hid (OpenT p.val w1.heap.size T s af3 cf3 (some ⟨b, off, none⟩) cn3 as3 cs3 m) := HO.out.up p.up
    have B1p := blk_up B1' p.up
    have B2p := blk_up B2' p.up
    have UP : Hid (Below w.heap.size w p.val) := up_trans U03.out p.up
    have hbp : w1.heap.size ≤ p.val.heap.size := Nat.le_trans hb3 p.up.size
    have hDp := HD.out.up UP.out
    have HDp : Hid (Octs p.val (.slice ad data.length cd) data) := hDp
    clear HCF p0 p1 p2 p3 p4 pc HO HFW OT B1' B2' a0 hDp T0 HNm
    generalize p.val = wp at *
    clear p
    have a0 := blk_cell B1p 0 _ rfl
    have a1 := blk_cell B1p 1 _ rfl
    have a2 := blk_cell B1p 2 _ rfl
    have a3 := blk_cell B1p 3 _ rfl
    have t2 := blk_cell HO2.out.2.1 2 _ rfl
    go_wp2_with fail
    refine (refWithout_any s.names name HN1.out.1 _ wp (NamesW.own HO2.out.2.2.2.2.1) (by omega)).mono ?_
    rintro e w5 ⟨v5, rfl, on5, u5⟩
    obtain ⟨a5, c5, e5, _, _⟩ := (NamesW.own on5).len
    obtain ⟨ln, hln⟩ : ∃ ln, ln = (withoutOf s.names name).length := ⟨_, rfl⟩
    rw [← hln] at e5
    subst e5
    have st := HO2.out.setNames hbp (grown_up u5 _) (.inr (fun g hg => (on5.2.2.lt g hg).1)) (on5.mono hbp)
    obtain ⟨y0, y1, y2, y3, y4⟩ := box_cells st.1
    have yf := blk_frozen st.1 2
    have OU6 : Hid (OwnU (w5.setCell ⟨T, 2, none⟩ (.slice a5 ln c5)) w1.heap.size (.agg #[.int .i64 s.cap, .slice af3 m.length cf3, .slice a5 ln c5, .slice as3 s.safe.length cs3, .int .i64 s.next]) { s with names := withoutOf s.names name }) := st.2.1.at (blk_set st.1 2 _)
    have bR6 : Hid ((w5.setCell ⟨T, 2, none⟩ (.slice a5 ln c5)).heap[N + 2]? = some (.cells #[.int .i64 0, .slice none 0 0, .slice none 0 0, .slice none 0 0, .int .i64 0] 25)) := st.2.2.low HTb.out (by have := HB1.out; omega) B2p
    have U6 : Hid (Below w.heap.size w (w5.setCell ⟨T, 2, none⟩ (.slice a5 ln c5))) := UP.out.trans ((st.2.2.below HTb.out).mono U1.out.size)
    have hb6 : w1.heap.size ≤ (w5.setCell ⟨T, 2, none⟩ (.slice a5 ln c5)).heap.size := Nat.le_trans hbp st.2.2.size
    have HL6 : Hid (({ s with names := withoutOf s.names name } : St).files.length ≤ 257) := by show s.files.length ≤ 257; omega
    clear st u5 on5 t2 hln a0 a1 a2 a3 B1p B2p
    go_wp2_with fail
    refine (refSwept_any { s with names := withoutOf s.names name } w1.heap.size _ _ OU6.out HL6.out hb6).mono ?_
    rintro e w7 ⟨v7, rfl, ou7, u7⟩
    obtain ⟨a7, n7, c7, a8, n8, c8, a9, n9, c9, ev7⟩ := ou7.shape
    subst ev7
    have bR7 := blk_up bR6.out u7
    have U7 : Hid (Below w.heap.size w w7) := up_trans U6.out u7
    have HO7 : Hid (OwnU w7 w1.heap.size (.agg #[.int .i64 (sweptOf { s with names := withoutOf s.names name }).cap, .slice a7 n7 c7, .slice a8 n8 c8, .slice a9 n9 c9, .int .i64 (sweptOf { s with names := withoutOf s.names name }).next]) (sweptOf { s with names := withoutOf s.names name })) := ou7
    clear ou7 u7
    obtain ⟨x0, x1, x2, x3, x4⟩ := box_cells bR7
    have f0 := blk_frozen bR7 0
    have f1 := blk_frozen bR7 1
    have f2 := blk_frozen bR7 2
    have f3 := blk_frozen bR7 3
    have f4 := blk_frozen bR7 4
    have b5 := set5_blk bR7 (.int .i64 (sweptOf { s with names := withoutOf s.names name }).cap) (.slice a7 n7 c7) (.slice a8 n8 c8) (.slice a9 n9 c9) (.int .i64 (sweptOf { s with names := withoutOf s.names name }).next)
    have HV5 : Hid (OwnU (set5 w7 (N + 2) (.int .i64 (sweptOf { s with names := withoutOf s.names name }).cap) (.slice a7 n7 c7) (.slice a8 n8 c8) (.slice a9 n9 c9) (.int .i64 (sweptOf { s with names := withoutOf s.names name }).next)) w1.heap.size (.agg #[.int .i64 (sweptOf { s with names := withoutOf s.names name }).cap, .slice a7 n7 c7, .slice a8 n8 c8, .slice a9 n9 c9, .int .i64 (sweptOf { s with names := withoutOf s.names name }).next]) (sweptOf { s with names := withoutOf s.names name })) := (HO7.out.put bR7).2
    clear bR7
    go_wp2_with fail
    refine bodyPost_ret (results_docs1 rfl _ _ rfl rfl b5) rfl ?_
    rw [HR.out]
    exact ⟨_, rfl, HV5.out.mono U1.out.size, U7.out.grown (set5_grown _ _ _ _ _ _ _) U7.out.size (fun j hj => by injection hj with hj; rw [← hj, HN.out]; omega)⟩

end Go.Proofs.Ytoceddpjkodfkaa
