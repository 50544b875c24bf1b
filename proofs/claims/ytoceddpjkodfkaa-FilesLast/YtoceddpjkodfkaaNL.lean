/- The law FilesLast holds: for every state and every slice of numbers the Go function returns true, and what was handed in reads as before; no conditions. -/
import Derived.Test.YtoceddpjkodfkaaM4
import Derived.Test.YtoceddpjkodfkaaR7
import Derived.Test.YtoceddpjkodfkaaT1
import Derived.Deep.QuietTactic
import Derived.BigQuiet
import Derived.Test.YtoceddpjkodfkaaT3
import Derived.Test.YtoceddpjkodfkaaS1
import Derived.Test.YtoceddpjkodfkaaU3
import Derived.Test.YtoceddpjkodfkaaRows
import Derived.Test.YtoceddpjkodfkaaV1
import Derived.WalkKit
import Derived.ProofKit
import Derived.OpenShut
import Derived.ShutString
import Derived.ChangeOld
import Derived.Below
import Derived.SizedLaws

/- What a run and crashes keep, said plainly. -/
namespace Go.Proofs.Ytoceddpjkodfkaa
open Go.RowKit
set_option linter.unusedVariables false

theorem go_good : ∀ (l : List Ac) {s : St}, Good s → Good (goP s l).1 ∧ 0 ≤ (goP s l).2.1 ∧ (goP s l).2.1 ≤ (l.length : Int)
  | [], s, h => ⟨h, by simp [goP], by simp [goP]⟩
  | a :: l, s, h => by
    have hg := act_good h a
    unfold goP
    by_cases c : (actP s a).2 = 0
    · rw [if_pos c]
      have ih := go_good l hg
      refine ⟨ih.1, ?_, ?_⟩
      · show 0 ≤ (goP (actP s a).1 l).2.1 + 1
        omega
      · show (goP (actP s a).1 l).2.1 + 1 ≤ ((a :: l).length : Int)
        simp only [List.length_cons]
        omega
    · rw [if_neg c]
      exact ⟨hg, by simp, by simp only [List.length_cons]; omega⟩

theorem run_good {s : St} (h : Good s) (l : List Ac) : Good (runP s l).1 ∧ 0 ≤ (runP s l).2.1 ∧ (runP s l).2.1 ≤ (l.length : Int) := by
  unfold runP
  rw [good_check h]
  exact go_good l h

theorem run_bad {s : St} (h : checkP s = false) (l : List Ac) : runP s l = (z0, 0, 9) := by
  unfold runP
  rw [h]
  rfl

theorem crash_ok {s : St} (h : Good s) (keep : List Int) : (crashP s keep).2 = 0 := by
  unfold crashP
  rw [good_check h]
  rfl

theorem cutTo_ids (keep : List Int) (l : List (Int × List Int × Int)) : (cutTo keep l l.length).map (·.1) = l.map (·.1) := by
  apply List.ext_getElem
  · simp [cutTo_len]
  · intro i h1 h2
    have hi : i < l.length := by simpa using h2
    have hc : i < (cutTo keep l l.length).length := by simpa using h1
    have e := cutTo_at keep l l.length i hi
    rw [if_pos hi] at e
    have e' : (cutTo keep l l.length)[i] = cutF l[i] (keep.getD i 0) := by simpa [List.getD, hc, hi] using e
    rw [List.getElem_map, List.getElem_map, e']
    rfl

theorem crash_names {s : St} (h : Good s) (keep : List Int) : (crashP s keep).1.names = s.safe ∧ (crashP s keep).1.safe = s.safe := by
  unfold crashP
  rw [good_check h]
  exact ⟨rfl, rfl⟩

theorem crash_again {s : St} (h : Good s) (keep keep2 : List Int) : (crashP (crashP s keep).1 keep2).1.names = (crashP s keep).1.names ∧ (crashP (crashP s keep).1 keep2).1.files.length = (crashP s keep).1.files.length := by
  have hu := crash_good h keep
  have hn := crash_names h keep
  generalize (crashP s keep).1 = u at *
  have hc := crash_names hu keep2
  refine ⟨by rw [hc.1, hn.1, hn.2], ?_⟩
  have hall := hu.all
  unfold crashP
  rw [good_check hu]
  simp only [if_true]
  unfold sweptOf
  simp only
  rw [List.filter_eq_self.2 ?_]
  · exact cutTo_len _ _ _
  · intro f hf
    have hm : f.1 ∈ u.files.map (·.1) := by
      rw [← cutTo_ids keep2 u.files]
      exact List.mem_map.2 ⟨f, hf, rfl⟩
    obtain ⟨g, hg, e⟩ := List.mem_map.1 hm
    have := hall g hg
    rw [e, hn.1, hn.2] at this
    rw [hn.2]
    have hs := (stands_iff s.safe f.1).2 (by simpa using this)
    simp [hs]

theorem box_cells {w : World} {B : Nat} {a b c d e : Value} {t : TypeId} (h : w.heap[B]? = some (.cells #[a, b, c, d, e] t)) :
    w.cell? ⟨B, 0, none⟩ = some a ∧ w.cell? ⟨B, 1, none⟩ = some b ∧ w.cell? ⟨B, 2, none⟩ = some c ∧ w.cell? ⟨B, 3, none⟩ = some d ∧ w.cell? ⟨B, 4, none⟩ = some e :=
  ⟨blk_cell h 0 _ rfl, blk_cell h 1 _ rfl, blk_cell h 2 _ rfl, blk_cell h 3 _ rfl, blk_cell h 4 _ rfl⟩

theorem StW.form {w : World} {v : Value} {s : St} (h : StW w v s) : ∃ af cf an cn as' cs', v = .agg #[.int .i64 s.cap, .slice af s.files.length cf, .slice an s.names.length cn, .slice as' s.safe.length cs', .int .i64 s.next] := by
  obtain ⟨vf, vn, vs, rfl, hf, hn, hs, _, _⟩ := h
  obtain ⟨af, cf, rfl, _, _⟩ := hf.len
  obtain ⟨an, cn, rfl, _, _⟩ := hn.len
  obtain ⟨as', cs', rfl, _, _⟩ := hs.len
  exact ⟨_, _, _, _, _, _, rfl⟩

theorem good_few {s : St} (h : Good s) : s.names.length + s.safe.length ≤ 9223372036854775807 := by
  have h1 : s.names.length ≤ s.files.length := by
    have := nodup_le (s.names.map (·.2)) (s.files.map (·.1)) h.names.once (by
      intro x hx
      obtain ⟨p, hp, rfl⟩ := List.mem_map.1 hx
      exact h.names.ids p hp)
    simpa using this
  have h2 : s.safe.length ≤ s.files.length := by
    have := nodup_le (s.safe.map (·.2)) (s.files.map (·.1)) h.safe.once (by
      intro x hx
      obtain ⟨p, hp, rfl⟩ := List.mem_map.1 hx
      exact h.safe.ids p hp)
    simpa using this
  have := h.few
  omega
end Go.Proofs.Ytoceddpjkodfkaa

/- The law's own comparisons, where both are the same. -/
namespace Go.Proofs.Ytoceddpjkodfkaa
open Go.RowKit
set_option linter.unusedVariables false
set_option linter.unusedSimpArgs false

/-- Texts as they are read. -/
def TextsW (w : World) (v : Value) (l : List (List Int)) : Prop := Rws 1 w v (l.map srow)
theorem TextsW.up {w w' : World} {v : Value} {l : List (List Int)} (h : TextsW w v l) (hb : Below w.heap.size w w') : TextsW w' v l := Rws.up h hb
theorem TextsW.len {w : World} {v : Value} {l : List (List Int)} (h : TextsW w v l) : ∃ a cap, v = .slice a l.length cap ∧ l.length ≤ cap ∧ cap ≤ maxLen := by
  obtain ⟨a, cap, e, h1, h2⟩ := Rws.len h
  rw [List.length_map] at e h1
  exact ⟨a, cap, e, h1, h2⟩
theorem TextsW.at {w : World} {v : Value} {l : List (List Int)} (h : TextsW w v l) (k : Nat) (hk : k < l.length) : ∃ b off cap, v = .slice (some ⟨b, off, none⟩) l.length cap ∧ w.cell? ⟨b, off + k, none⟩ = some (.string (strOfNums (l.getD k []))) := by
  obtain ⟨b, off, cap, e, _, _, hc⟩ := Rws.at h k (by rw [List.length_map]; exact hk)
  rw [List.length_map] at e
  have hr : (l.map srow).getD k [] = [.string (strOfNums (l.getD k []))] := by simp [List.getD, hk, srow]
  rw [hr] at hc
  have c0 := hc 0 _ rfl
  rw [Nat.mul_one, Nat.add_zero] at c0
  exact ⟨b, off, cap, e, c0⟩

set_option maxHeartbeats 2000000 in
theorem sameTexts_self (l : List (List Int)) (v u : Value) (w : World) (hv : TextsW w v l) (hu : TextsW w u l) :
    Calls Try.prog 22 #[v, u] w fun e w' => e = .returned (.bool true) ∧ Below w.heap.size w w' := by
  have HV : Hid (TextsW w v l ∧ TextsW w u l) := ⟨hv, hu⟩
  obtain ⟨a1, c1, e1, _, m1⟩ := hv.len
  obtain ⟨a2, c2, e2, _, m2⟩ := hu.len
  subst e1
  subst e2
  have hl63 : l.length ≤ 9223372036854775807 := by unfold maxLen at m1; omega
  clear hv hu
  go_enter Try.func22, Try.ntmps22
  go_wp2_with fail
  go_loopw [5] (fun i wr => ∃ k : Nat, k ≤ l.length ∧ i = .int .i64 k ∧ Hid (Below w.heap.size w wr)) (fun i _ => l.length - (intOf i).toNat)
  case atStart => exact ⟨0, Nat.zero_le _, rfl, Below.refl _ _⟩
  case round =>
    obtain ⟨k, hk, rfl, up⟩ := hrel
    by_cases hlt : k < l.length
    · have hlt' : (k : Int) < (l.length : Int) := by omega
      obtain ⟨b, off, cap, e, z0⟩ := (HV.out.1.up up.out).at k hlt
      obtain ⟨b', off', cap', e', z1⟩ := (HV.out.2.up up.out).at k hlt
      simp at e e'
      obtain ⟨rfl, rfl⟩ := e
      obtain ⟨rfl, rfl⟩ := e'
      have z0' := fun (p : UpW wr) => cell_up z0 p
      have z1' := fun (p : UpW wr) => cell_up z1 p
      go_wp2_with fail
      refine wp_region_up (by kernel_rfl) (by kernel_rfl) ?_
      repeat (quiet_step (fail))
      refine wpQuiet_nil ?_
      intro _ hw'
      obtain ⟨p, hw''⟩ := hw'
      subst hw''
      have HU : Hid (Below w.heap.size w p.val) := up_trans up.out p.up
      go_wp2_with fail
      exact ⟨⟨k + 1, by omega, by go_num, HU⟩, by simp [intOf]; omega⟩
    · have hlt' : ¬ (k : Int) < (l.length : Int) := by omega
      go_wp2_with fail
      go_ret
      exact ⟨rfl, up.out⟩
end Go.Proofs.Ytoceddpjkodfkaa

/- What is read behind the names were synced, and behind a crash, said plainly. -/
namespace Go.Proofs.Ytoceddpjkodfkaa
open Go.RowKit
set_option linter.unusedVariables false

theorem rank_at {A : Type} {p : A → Bool} {l : List A} {i : Nat} (hi : i < l.length) (h1 : ∀ j (hj : j < l.length), j < i → p l[j] = true) (h2 : p l[i] = false) : rankOf p l = i := by
  have e : l = l.take i ++ l[i] :: l.drop (i + 1) := by
    rw [List.getElem_cons_drop, List.take_append_drop]
  unfold rankOf
  rw [e, takeWhile_all]
  · rw [List.takeWhile_cons_of_neg (by rw [h2]; decide), List.append_nil, List.length_take]
    omega
  · intro x hx
    obtain ⟨j, hj, rfl⟩ := List.getElem_of_mem hx
    rw [List.length_take] at hj
    rw [List.getElem_take]
    exact h1 j (by omega) (by omega)

theorem rankN_at {l : List (List Int × Int)} (h : l.Pairwise fun a b => lessL a.1 b.1 = true) {i : Nat} (hi : i < l.length) : rankN l (l[i]).1 = i := by
  rw [List.pairwise_iff_getElem] at h
  exact rank_at hi (fun j hj hji => h j i hj hi hji) (lessL_self _)

theorem rankF_at {l : List (Int × List Int × Int)} (h : l.Pairwise fun a b => a.1 < b.1) {i : Nat} (hi : i < l.length) : rankF l (l[i]).1 = i := by
  rw [List.pairwise_iff_getElem] at h
  exact rank_at hi (fun j hj hji => by simpa using h j i hj hi hji) (by simp)

/-- Where a name's file lies. -/
theorem named {s : St} (h : Good s) {i : Nat} (hi : i < s.names.length) : ∃ k, ∃ hk : k < s.files.length, (s.files[k]).1 = (s.names[i]).2 ∧ hasF s (s.names[i]).1 = true ∧ idxF s (s.names[i]).1 = k := by
  have hm := h.names.ids _ (List.getElem_mem hi)
  obtain ⟨f, hf, e⟩ := List.mem_map.1 hm
  obtain ⟨k, hk, rfl⟩ := List.getElem_of_mem hf
  have hr := rankN_at h.names.rise hi
  have hid : idN s (s.names[i]).1 = (s.names[i]).2 := by
    unfold idN
    rw [hr]
    simp [List.getD, hi]
  have hrk : rankF s.files (s.names[i]).2 = k := by
    rw [← e]
    exact rankF_at h.rise hk
  refine ⟨k, hk, e, ?_, ?_⟩
  · unfold hasF
    rw [hid]
    unfold thereN thereF
    rw [hr, hrk]
    simp [List.getD, hi, hk, e]
  · unfold idxF
    rw [hid, hrk]

theorem read_at {s : St} (h : Good s) {i k : Nat} (hi : i < s.names.length) (hk : k < s.files.length) (e : (s.files[k]).1 = (s.names[i]).2) : readP s (s.names[i]).1 = ((s.files[k]).2.1, 0) := by
  obtain ⟨j, hj, ej, hh, hx⟩ := named h hi
  have : j = k := by
    have h1 := rankF_at h.rise hj
    have h2 := rankF_at h.rise hk
    rw [ej] at h1
    rw [e] at h2
    omega
  subst this
  unfold readP
  rw [good_check h, hh]
  simp only [if_true]
  rw [hx]
  simp [fileD, List.getD, hj]

theorem crash_files {s : St} (h : Good s) (hs : s.names = s.safe) (keep : List Int) : (crashP s keep).1.files = cutTo keep s.files s.files.length := by
  have hall := h.all
  unfold crashP
  rw [good_check h]
  simp only [if_true]
  unfold sweptOf
  simp only
  refine List.filter_eq_self.2 ?_
  intro f hf
  have hm : f.1 ∈ s.files.map (·.1) := by
    rw [← cutTo_ids keep s.files]
    exact List.mem_map.2 ⟨f, hf, rfl⟩
  obtain ⟨g, hg, e⟩ := List.mem_map.1 hm
  have := hall g hg
  rw [e, hs] at this
  have hst := (stands_iff s.safe f.1).2 (by simpa using this)
  simp [hst]

/-- What is read of a file, and behind a crash. -/
theorem last_read {s : St} (h : Good s) (hs : s.names = s.safe) (keep : List Int) {i : Nat} (hi : i < s.names.length) :
    ∃ (d : List Int) (n : Nat), readP s (s.names[i]).1 = (d, 0) ∧ readP (crashP s keep).1 (s.names[i]).1 = (d.take n, 0) ∧ n ≤ d.length ∧ d.length ≤ 16777216 ∧ ∀ k (hk : k < s.files.length), (s.files[k]).1 = (s.names[i]).2 → (s.files[k]).2.2 ≤ (n : Int) := by
  obtain ⟨k, hk, e, _, _⟩ := named h hi
  have hc := crash_good h keep
  have hcn := crash_names h keep
  have hcf := crash_files h hs keep
  have hsy := h.sync _ (List.getElem_mem hk)
  have hlf := left_le (s.files[k]) (keep.getD k 0) hsy.1 hsy.2
  have hlen : (s.files[k]).2.1.length ≤ 16777216 := by
    have h1 := h.used
    have h2 := h.cap1
    have h3 : ((s.files[k]).2.1.length : Int) ≤ usedOf s.files := by
      have hd : s.files = s.files.take k ++ s.files[k] :: s.files.drop (k + 1) := by
        rw [List.getElem_cons_drop, List.take_append_drop]
      have e1 : usedOf s.files = usedOf (s.files.take k) + (((s.files[k]).2.1.length : Int) + usedOf (s.files.drop (k + 1))) := by
        rw [← used_cons, ← used_append, ← hd]
      have e2 := used_nonneg (s.files.take k)
      have e3 := used_nonneg (s.files.drop (k + 1))
      omega
    omega
  refine ⟨(s.files[k]).2.1, (leftN (s.files[k]) (keep.getD k 0)).toNat, read_at h hi hk e, ?_, by omega, hlen, ?_⟩
  · have hn : (crashP s keep).1.names = s.names := by rw [hcn.1, hs]
    have hi2 : i < (crashP s keep).1.names.length := by rw [hn]; exact hi
    have hk2 : k < (crashP s keep).1.files.length := by rw [hcf, cutTo_len]; exact hk
    have ef : (crashP s keep).1.files[k] = cutF (s.files[k]) (keep.getD k 0) := by
      have e1 := cutTo_at keep s.files s.files.length k hk
      rw [if_pos hk] at e1
      have e2 : (crashP s keep).1.files.getD k (0, [], 0) = cutF (s.files.getD k (0, [], 0)) (keep.getD k 0) := by rw [hcf]; exact e1
      simpa [List.getD, hk2, hk] using e2
    have en : (crashP s keep).1.names[i] = s.names[i] := by simp only [hn]
    have := read_at hc hi2 hk2 (by rw [ef, en]; exact e)
    rw [en, ef] at this
    exact this
  · intro j hj ej
    have : j = k := by
      have h1 := rankF_at h.rise hj
      have h2 := rankF_at h.rise hk
      rw [ej] at h1
      rw [e] at h2
      omega
    subst this
    omega

theorem sync_names {s : St} (h : Good s) : Good (syncNamesP s) ∧ (syncNamesP s).names = (syncNamesP s).safe := ⟨syncNames_good h, rfl⟩

theorem do_six {s : St} : (checkP s = true ∧ doP s ⟨6, [], [], []⟩ = (syncNamesP s, 0)) ∨ (checkP s = false ∧ doP s ⟨6, [], [], []⟩ = (z0, 9)) := by
  cases hc : checkP s
  · right
    refine ⟨rfl, ?_⟩
    unfold doP
    rw [hc]
    rfl
  · left
    refine ⟨rfl, ?_⟩
    unfold doP
    rw [hc]
    simp only [if_true]
    have : actP s ⟨6, [], [], []⟩ = (syncNamesP s, 0) := rfl
    rw [this]
    rfl

theorem list_good {s : St} (h : Good s) : listP s = (s.names.map (·.1), 0) := by
  unfold listP
  rw [good_check h]
  rfl

theorem Octs.cut {w : World} {a : Option Addr} {c : Nat} {l : List Int} (h : Octs w (.slice a l.length c) l) {n : Nat} (hn : n ≤ l.length) : Octs w (.slice a n c) (l.take n) := by
  obtain ⟨h0, h⟩ := h
  refine ⟨fun x hx => h0 x (List.mem_of_mem_take hx), ?_⟩
  rcases h with ⟨hl, a', cap, e, ha⟩ | ⟨hl, b, off, cap, e, hc, hm, hj⟩
  · subst hl
    simp at e
    obtain ⟨rfl, rfl⟩ := e
    have : n = 0 := by simpa using hn
    subst this
    exact .inl ⟨by simp, _, _, rfl, ha⟩
  · simp at e
    obtain ⟨rfl, rfl⟩ := e
    have hlen : (l.take n).length = n := by rw [List.length_take]; omega
    by_cases h0 : n = 0
    · subst h0
      exact .inl ⟨by simp, _, _, rfl, fun h => by cases h⟩
    · refine .inr ⟨?_, b, off, c, by rw [hlen], by omega, hm, fun j x hx => ?_⟩
      · intro q
        rw [q] at hlen
        simp at hlen
        omega
      · rw [List.getElem?_take] at hx
        split at hx
        · exact hj j x hx
        · cases hx
end Go.Proofs.Ytoceddpjkodfkaa

/- The walk of the law FilesLast. -/
namespace Go.Proofs.Ytoceddpjkodfkaa
open Go.RowKit
set_option linter.unusedVariables false

theorem acw6 (w : World) : AcW w (.agg #[.int .i64 6, .string ⟨#[]⟩, .string ⟨#[]⟩, .slice none 0 0]) ⟨6, [], [], []⟩ := by
  have s0 : strOfNums [] = ⟨#[]⟩ := by decide
  have k0 : OctL [] := by unfold OctL; decide
  exact ⟨_, by simp only [s0], ⟨(fun x hx => by cases hx), .inl ⟨rfl, none, 0, rfl, fun _ => rfl⟩⟩, by unfold In64; decide, k0, by simp, k0, by simp, by simp⟩

set_option maxHeartbeats 8000000 in
set_option maxRecDepth 4000 in
theorem last_walk (s : St) (keep : List Int) (v vk : Value) (w : World) (hv : StW w v s) (hk : IntsW w vk keep)
    (h1 : s.files.length * 40 ≤ 140737488351232) (h2 : s.names.length * 24 ≤ 140737488351232) (h3 : s.safe.length * 24 ≤ 140737488351232) :
    Calls Try.prog 6 #[v, vk] w fun e w' => e = .returned (.bool true) ∧ Below w.heap.size w w' := by
  obtain ⟨a0f, c0f, a0n, c0n, a0s, c0s, rfl⟩ := hv.form
  obtain ⟨ak, ck, rfl, hck, hmk⟩ := hk.len
  have HV : Hid (StW w (.agg #[.int .i64 s.cap, .slice a0f s.files.length c0f, .slice a0n s.names.length c0n, .slice a0s s.safe.length c0s, .int .i64 s.next]) s) := hv
  have HK : Hid (IntsW w (.slice ak keep.length ck) keep) := hk
  have H1 : Hid (s.files.length * 40 ≤ 140737488351232 ∧ s.names.length * 24 ≤ 140737488351232 ∧ s.safe.length * 24 ≤ 140737488351232) := ⟨h1, h2, h3⟩
  have H2 : Hid (s.names.length + s.safe.length ≤ 9223372036854775807) := by unfold Hid; omega
  clear hv hk h1 h2 h3
  have B0 : (w.alloc (.cells #[.int .i64 s.cap, .slice a0f s.files.length c0f, .slice a0n s.names.length c0n, .slice a0s s.safe.length c0s, .int .i64 s.next] 25)).heap[w.heap.size]? = some (.cells #[.int .i64 s.cap, .slice a0f s.files.length c0f, .slice a0n s.names.length c0n, .slice a0s s.safe.length c0s, .int .i64 s.next] 25) := blk_new _ _
  have U0 : Hid (Below w.heap.size w (w.alloc (.cells #[.int .i64 s.cap, .slice a0f s.files.length c0f, .slice a0n s.names.length c0n, .slice a0s s.safe.length c0s, .int .i64 s.next] 25))) := up_alloc _ _
  go_enter Try.func6, Try.ntmps6
  go_wp2_with fail
  generalize w.alloc (.cells #[.int .i64 s.cap, .slice a0f s.files.length c0f, .slice a0n s.names.length c0n, .slice a0s s.safe.length c0s, .int .i64 s.next] 25) = w0 at *
  refine (alive_any w0).mono ?_
  rintro e w1 ⟨rfl, u⟩
  have U1 : Hid (Below w.heap.size w w1) := up_trans U0.out u
  have B1 := blk_up B0 u
  clear B0 u
  obtain ⟨p0, p1, p2, p3, p4⟩ := box_cells B1
  go_wp2_with fail
  refine (of_any s _ w1 (HV.out.up U1.out) H1.out.1 H1.out.2.1 H1.out.2.2).mono ?_
  rintro e w2 ⟨v2, rfl, ov, u⟩
  obtain ⟨a2f, c2f, a2n, c2n, a2s, c2s, rfl⟩ := (StW.own ov).form
  have O2 : Hid (OwnV w2 w1.heap.size (.agg #[.int .i64 s.cap, .slice a2f s.files.length c2f, .slice a2n s.names.length c2n, .slice a2s s.safe.length c2s, .int .i64 s.next]) s) := ov
  have U2 : Hid (Below w.heap.size w w2) := up_trans U1.out u
  have B2 := blk_up B1 u
  clear ov u B1 p0 p1 p2 p3 p4
  go_wp2_with fail
  refine (do_any s ⟨6, [], [], []⟩ _ _ w2 (StW.own O2.out) (acw6 w2) H2.out).mono ?_
  rintro e w3 ⟨v3, rfl, ov, u⟩
  have HD : Hid ((checkP s = true ∧ doP s ⟨6, [], [], []⟩ = (syncNamesP s, 0)) ∨ (checkP s = false ∧ doP s ⟨6, [], [], []⟩ = (z0, 9))) := do_six
  generalize doP s ⟨6, [], [], []⟩ = T at *
  obtain ⟨t, ee⟩ := T
  simp only at ov
  have HL : Hid (t.names.length + t.safe.length ≤ 9223372036854775807) := by
    rcases HD.out with ⟨hc, e⟩ | ⟨hc, e⟩
    · simp only [Prod.mk.injEq] at e
      rw [e.1]
      exact good_few (sync_names (check_good hc)).1
    · simp only [Prod.mk.injEq] at e
      rw [e.1]
      unfold Hid
      decide
  obtain ⟨a3f, c3f, a3n, c3n, a3s, c3s, rfl⟩ := (StW.own ov).form
  have O3 : Hid (OwnV w3 w2.heap.size (.agg #[.int .i64 t.cap, .slice a3f t.files.length c3f, .slice a3n t.names.length c3n, .slice a3s t.safe.length c3s, .int .i64 t.next]) t) := ov
  have U3 : Hid (Below w.heap.size w w3) := up_trans U2.out u
  have B3 := blk_up (blk_up B2 u) (up_alloc w3 (.cells #[.int .i64 t.cap, .slice a3f t.files.length c3f, .slice a3n t.names.length c3n, .slice a3s t.safe.length c3s, .int .i64 t.next] 33))
  have B7 : (w3.alloc (.cells #[.int .i64 t.cap, .slice a3f t.files.length c3f, .slice a3n t.names.length c3n, .slice a3s t.safe.length c3s, .int .i64 t.next] 33)).heap[w3.heap.size]? = some (.cells #[.int .i64 t.cap, .slice a3f t.files.length c3f, .slice a3n t.names.length c3n, .slice a3s t.safe.length c3s, .int .i64 t.next] 33) := blk_new _ _
  have U4 : Hid (Below w3.heap.size w3 (w3.alloc (.cells #[.int .i64 t.cap, .slice a3f t.files.length c3f, .slice a3n t.names.length c3n, .slice a3s t.safe.length c3s, .int .i64 t.next] 33))) := up_alloc _ _
  clear ov u B2
  obtain ⟨p0, p1, p2, p3, p4⟩ := box_cells B7
  go_wp2_with fail
  generalize w3.alloc (.cells #[.int .i64 t.cap, .slice a3f t.files.length c3f, .slice a3n t.names.length c3n, .slice a3s t.safe.length c3s, .int .i64 t.next] 33) = w4 at *
  refine (crash_any t keep _ _ w4 ((StW.own O3.out).up U4.out) (HK.out.up (up_trans U3.out U4.out)) HL.out).mono ?_
  rintro e w5 ⟨v5, rfl, ov, u⟩
  obtain ⟨Y, hY⟩ : ∃ Y, Y = crashP t keep := ⟨_, rfl⟩
  have HY : Hid (Y = crashP t keep) := hY
  rw [← hY] at ov ⊢
  clear hY
  obtain ⟨x, ff⟩ := Y
  simp only at ov
  obtain ⟨a5f, c5f, a5n, c5n, a5s, c5s, rfl⟩ := (StW.own ov).form
  have O5 : Hid (OwnV w5 w4.heap.size (.agg #[.int .i64 x.cap, .slice a5f x.files.length c5f, .slice a5n x.names.length c5n, .slice a5s x.safe.length c5s, .int .i64 x.next]) x) := ov
  have U5 : Hid (Below w4.heap.size w4 w5) := u
  have B8 := blk_up (blk_up B3 u) (up_alloc w5 (.cells #[.int .i64 x.cap, .slice a5f x.files.length c5f, .slice a5n x.names.length c5n, .slice a5s x.safe.length c5s, .int .i64 x.next] 33))
  have B9 := blk_up (blk_up B7 u) (up_alloc w5 (.cells #[.int .i64 x.cap, .slice a5f x.files.length c5f, .slice a5n x.names.length c5n, .slice a5s x.safe.length c5s, .int .i64 x.next] 33))
  have BA : (w5.alloc (.cells #[.int .i64 x.cap, .slice a5f x.files.length c5f, .slice a5n x.names.length c5n, .slice a5s x.safe.length c5s, .int .i64 x.next] 33)).heap[w5.heap.size]? = some (.cells #[.int .i64 x.cap, .slice a5f x.files.length c5f, .slice a5n x.names.length c5n, .slice a5s x.safe.length c5s, .int .i64 x.next] 33) := blk_new _ _
  have U6 : Hid (Below w5.heap.size w5 (w5.alloc (.cells #[.int .i64 x.cap, .slice a5f x.files.length c5f, .slice a5n x.names.length c5n, .slice a5s x.safe.length c5s, .int .i64 x.next] 33))) := up_alloc _ _
  clear ov u B3 B7 p0 p1 p2 p3 p4
  go_wp2_with fail
  generalize w5.alloc (.cells #[.int .i64 x.cap, .slice a5f x.files.length c5f, .slice a5n x.names.length c5n, .slice a5s x.safe.length c5s, .int .i64 x.next] 33) = w6 at *
  have U36 : Hid (Below w3.heap.size w3 w6) := up_trans U4.out (up_trans U5.out U6.out)
  have U06 : Hid (Below w.heap.size w w6) := up_trans U3.out U36.out
  refine (num_any ee _).mono ?_
  rintro e w7 ⟨rfl, rfl⟩
  rcases HD.out with ⟨hc, e9⟩ | ⟨hc, e9⟩
  rotate_left
  · simp only [Prod.mk.injEq] at e9
    obtain ⟨_, rfl⟩ := e9
    obtain ⟨p0, p1, p2, p3, p4⟩ := box_cells B8
    have HC : Hid (checkP s = false) := hc
    clear hc
    go_wp2_with fail
    refine (refCheck_any s _ _ (HV.out.up U06.out)).mono ?_
    rintro e w8 ⟨rfl, u⟩
    rw [HC.out]
    have e9 : errOf false = 9 := rfl
    rw [e9]
    clear e9
    have U8 : Hid (Below _ _ w8) := u
    clear u
    go_wp2_with fail
    go_ret
    exact ⟨rfl, up_trans U06.out U8.out⟩
  · simp only [Prod.mk.injEq] at e9
    obtain ⟨ht, rfl⟩ := e9
    have hg := sync_names (check_good hc)
    rw [← ht] at hg
    have GT : Hid (Good t) := hg.1
    have HS : Hid (t.names = t.safe) := hg.2
    have hx0 : ff = 0 := by
      have := crash_ok GT.out keep
      rw [← HY.out] at this
      exact this
    subst hx0
    have GX : Hid (Good x) := by
      have := crash_good GT.out keep
      rw [← HY.out] at this
      exact this
    have HX : Hid (x.names = t.names) := by
      have := (crash_names GT.out keep).1
      rw [← HY.out] at this
      exact this.trans HS.out.symm
    have HX1 : Hid (x = (crashP t keep).1) := by
      rw [← HY.out]
      exact rfl
    clear hc ht hg HD
    clear B8
    obtain ⟨p0, p1, p2, p3, p4⟩ := box_cells B9
    go_wp2_with fail
    refine (list_any t _ _ ((StW.own O3.out).up U36.out) (good_few GT.out)).mono ?_
    rintro e w8 ⟨v8, rfl, ol, u⟩
    rw [list_good GT.out] at ol ⊢
    have T8 : TextsW w8 v8 (t.names.map (·.1)) := Rws.own ol
    obtain ⟨a8, c8, e8, hc8, hm8⟩ := T8.len
    rw [List.length_map] at e8 hc8
    subst e8
    have HT8 : Hid (TextsW w8 (.slice a8 t.names.length c8) (t.names.map (·.1))) := T8
    have U8 : Hid (Below w7.heap.size w7 w8) := u
    have BB := blk_up B9 u
    have BC := blk_up BA u
    clear ol u T8 B9 BA p0 p1 p2 p3 p4
    obtain ⟨p0, p1, p2, p3, p4⟩ := box_cells BC
    go_wp2_with fail
    refine (list_any x _ _ ((StW.own O5.out).up (up_trans U6.out U8.out)) (good_few GX.out)).mono ?_
    rintro e w9 ⟨v9, rfl, ol, u⟩
    rw [list_good GX.out] at ol ⊢
    rw [HX.out] at ol
    have T9 : TextsW w9 v9 (t.names.map (·.1)) := Rws.own ol
    obtain ⟨a9, c9, e9, hc9, hm9⟩ := T9.len
    rw [List.length_map] at e9 hc9
    subst e9
    have HT9 : Hid (TextsW w9 (.slice a9 t.names.length c9) (t.names.map (·.1))) := T9
    have U9 : Hid (Below w8.heap.size w8 w9) := u
    have BD := blk_up BB u
    have BE := blk_up BC u
    clear ol u T9 BB BC p0 p1 p2 p3 p4
    go_wp2_with fail
    refine (num_any 0 _).mono ?_
    rintro e wz ⟨rfl, rfl⟩
    go_wp2_with fail
    refine (num_any 0 _).mono ?_
    rintro e wz ⟨rfl, rfl⟩
    go_wp2_with fail
    refine (num_any 0 _).mono ?_
    rintro e wz ⟨rfl, rfl⟩
    go_wp2_with fail
    refine (sameTexts_self (t.names.map (·.1)) _ _ _ (HT8.out.up U9.out) HT9.out).mono ?_
    rintro e wA ⟨rfl, u⟩
    have UA : Hid (Below _ _ wA) := u
    have BF := blk_up BD u
    have BG := blk_up BE u
    clear u BD BE
    obtain ⟨p0, p1, p2, p3, p4⟩ := box_cells BF
    obtain ⟨q0, q1, q2, q3, q4⟩ := box_cells BG
    have UA6 : Hid (Below w7.heap.size w7 wA) := up_trans U8.out (up_trans U9.out UA.out)
    have HT : Hid (TextsW wA (.slice a8 t.names.length c8) (t.names.map (·.1))) := HT8.out.up (up_trans U9.out UA.out)
    have SA : Hid (StW wA (.agg #[.int .i64 t.cap, .slice a3f t.files.length c3f, .slice a3n t.names.length c3n, .slice a3s t.safe.length c3s, .int .i64 t.next]) t) := (StW.own O3.out).up (up_trans U36.out UA6.out)
    have SB : Hid (StW wA (.agg #[.int .i64 x.cap, .slice a5f x.files.length c5f, .slice a5n x.names.length c5n, .slice a5s x.safe.length c5s, .int .i64 x.next]) x) := (StW.own O5.out).up (up_trans U6.out UA6.out)
    have UW : Hid (Below w.heap.size w wA) := up_trans U06.out UA6.out
    unfold maxLen at hm8
    have hfew : t.files.length ≤ 256 := GT.out.few
    clear HT8 HT9 U8 U9 UA UA6 O3 O5 U36 U06 U6 U5 U4 U3 U2 O2 H1 H2 HV HK HL
    go_wp2_with fail
    go_loopw [13] (fun i wr => ∃ k : Nat, k ≤ t.names.length ∧ i = .int .i64 k ∧ Hid (Below wA.heap.size wA wr)) (fun i _ => t.names.length - (intOf i).toNat)
    case atStart => exact ⟨0, Nat.zero_le _, rfl, Below.refl _ _⟩
    case round =>
      obtain ⟨k, hk, rfl, HB⟩ := hrel
      by_cases hlt : k < t.names.length
      · have hlt' : (k : Int) < (t.names.length : Int) := by omega
        obtain ⟨d, n, hr1, hr2, hn, hdl, hsy⟩ := last_read GT.out HS.out keep hlt
        rw [← HX1.out] at hr2
        have HSy : Hid (∀ j (hj : j < t.files.length), (t.files[j]).1 = (t.names[k]).2 → (t.files[j]).2.2 ≤ (n : Int)) := hsy
        have hdn : (d.take n).length = n := by rw [List.length_take]; omega
        obtain ⟨nm, hnm⟩ : ∃ nm, nm = (t.names[k]).1 := ⟨_, rfl⟩
        rw [← hnm] at hr1 hr2
        have HR1 : Hid (readP t nm = (d, 0)) := hr1
        have HR2 : Hid (readP x nm = (d.take n, 0)) := hr2
        have HDn : Hid ((d.take n).length = n) := hdn
        clear hr1 hr2 hsy hdn
        obtain ⟨b8, o8, c8', e8, k8⟩ := (HT.out.up HB.out).at k (by rw [List.length_map]; exact hlt)
        rw [List.length_map] at e8
        simp at e8
        obtain ⟨rfl, rfl⟩ := e8
        have en : (t.names.map (·.1)).getD k [] = nm := by simp [List.getD, hlt, hnm]
        rw [en] at k8
        have HO : Hid (OctL nm) := by
          obtain ⟨_, _, _, _, _, hn', _⟩ := SA.out
          rw [hnm]
          exact (hn'.1 _ (List.getElem_mem hlt)).1
        clear en
        replace hnm : Hid (nm = (t.names[k]).1) := hnm
        have HC1 : Hid (Calls Try.prog 15 #[.agg #[.int .i64 t.cap, .slice a3f t.files.length c3f, .slice a3n t.names.length c3n, .slice a3s t.safe.length c3s, .int .i64 t.next], .string (strOfNums nm)] wr.drew fun e w' => ∃ a c, e = .returned (.tuple #[.slice a d.length c, .int .i64 0]) ∧ Hid (Octs w' (.slice a d.length c) d ∧ d.length ≤ c ∧ Below wr.heap.size wr w')) := by
          have ud : Below wr.heap.size wr wr.drew := up_dr (Below.refl _ _)
          refine (read_any t nm HO.out _ wr.drew (SA.out.up (up_trans HB.out ud)) (good_few GT.out)).mono ?_
          rintro e w' ⟨v', rfl, ob, ho, u⟩
          rw [HR1.out] at ob ho ⊢
          have oc := Octs.own ob ho
          obtain ⟨a, c, rfl, hac⟩ := oc.slice
          exact ⟨a, c, rfl, oc, hac, up_trans ud u⟩
        have r0 := (HB.out.cell (World.block_lt_of_cell? _ _ p0)).trans p0
        have r1 := (HB.out.cell (World.block_lt_of_cell? _ _ p1)).trans p1
        have r2 := (HB.out.cell (World.block_lt_of_cell? _ _ p2)).trans p2
        have r3 := (HB.out.cell (World.block_lt_of_cell? _ _ p3)).trans p3
        have r4 := (HB.out.cell (World.block_lt_of_cell? _ _ p4)).trans p4
        go_upto_region 14 with fail
        go_cut [14, 15] from 79 to 87 (fun s14 s15 wx => (∃ a c, s14 = .slice a d.length c ∧ Hid (Octs wx (.slice a d.length c) d ∧ d.length ≤ c ∧ Below wr.heap.size wr wx)) ∧ s15 = .int .i64 0)
        case first =>
          go_region_with ((go_at_call 15; refine HC1.out.mono ?_; rintro e w' ⟨a, c, rfl, hs⟩))
          all_goals
            go_wp2_with fail
            go_meet
            case rel => exact ⟨⟨_, _, rfl, hs⟩, rfl⟩
        case rest =>
        obtain ⟨⟨ax, cx, rfl, HXo⟩, rfl⟩ := hcut
        clear HC1 r0 r1 r2 r3 r4
        obtain ⟨wb, hwb⟩ : ∃ wb, wb = wc := ⟨_, rfl⟩
        subst hwb
        have UB : Hid (Below wA.heap.size wA wb) := up_trans HB.out HXo.out.2.2
        have k9 := (HXo.out.2.2.cell (World.block_lt_of_cell? _ _ k8)).trans k8
        have r0 := (UB.out.cell (World.block_lt_of_cell? _ _ q0)).trans q0
        have r1 := (UB.out.cell (World.block_lt_of_cell? _ _ q1)).trans q1
        have r2 := (UB.out.cell (World.block_lt_of_cell? _ _ q2)).trans q2
        have r3 := (UB.out.cell (World.block_lt_of_cell? _ _ q3)).trans q3
        have r4 := (UB.out.cell (World.block_lt_of_cell? _ _ q4)).trans q4
        clear k8
        have HC2 : Hid (Calls Try.prog 15 #[.agg #[.int .i64 x.cap, .slice a5f x.files.length c5f, .slice a5n x.names.length c5n, .slice a5s x.safe.length c5s, .int .i64 x.next], .string (strOfNums nm)] wb.drew fun e w' => ∃ a c, e = .returned (.tuple #[.slice a n c, .int .i64 0]) ∧ Hid (Octs w' (.slice a n c) (d.take n) ∧ Below wb.heap.size wb w')) := by
          have ud : Below wb.heap.size wb wb.drew := up_dr (Below.refl _ _)
          refine (read_any x nm HO.out _ wb.drew (SB.out.up (up_trans UB.out ud)) (good_few GX.out)).mono ?_
          rintro e w' ⟨v', rfl, ob, ho, u⟩
          rw [HR2.out] at ob ho ⊢
          have oc := Octs.own ob ho
          obtain ⟨a, c, rfl, hac⟩ := oc.slice
          simp only [HDn.out] at oc ⊢
          exact ⟨a, c, rfl, oc, up_trans ud u⟩
        go_upto_region 15 with fail
        go_cut [16, 17] from 88 to 96 (fun s16 s17 wx => (∃ a c, s16 = .slice a n c ∧ Hid (Octs wx (.slice a n c) (d.take n) ∧ Below wb.heap.size wb wx)) ∧ s17 = .int .i64 0)
        case first =>
          go_region_with ((go_at_call 15; refine HC2.out.mono ?_; rintro e w' ⟨a, c, rfl, hs⟩))
          all_goals
            go_wp2_with fail
            go_meet
            case rel => exact ⟨⟨_, _, rfl, hs⟩, rfl⟩
        case rest =>
        obtain ⟨⟨ay, cy, rfl, HYo⟩, rfl⟩ := hcut
        clear HC2 r0 r1 r2 r3 r4 k9
        have UC : Hid (Below wA.heap.size wA wc) := up_trans UB.out HYo.out.2
        have hn1 : ¬ (d.length : Int) < (n : Int) := by omega
        have hn4 : ¬ d.length < n := by omega
        have hn5 : decide (d.length < n) = false := by simp; omega
        have hcx := HXo.out.2.1
        have hn2 : (n : Int) ≤ (cx : Int) := by omega
        have hn3 : n ≤ cx := by omega
        have HO1 : Hid (Octs wc (.slice ax n cx) (d.take n)) := Octs.cut (HXo.out.1.up HYo.out.2) hn
        go_wp2_with fail
        refine (num_any 0 _).mono ?_
        rintro e wz ⟨rfl, rfl⟩
        go_wp2_with fail
        refine (num_any 0 _).mono ?_
        rintro e wz ⟨rfl, rfl⟩
        go_wp2_with fail
        refine (same_any (d.take n) (d.take n) _ _ _ HYo.out.1 HO1.out).mono ?_
        rintro e wz ⟨rfl, rfl⟩
        have hdt : decide (d.take n = d.take n) = true := by simp
        rw [hdt]
        clear hdt HO1 HYo HXo
        go_wp2_with fail
        go_loopw [18] (fun i wq => ∃ j : Nat, j ≤ t.files.length ∧ i = .int .i64 j ∧ Hid (Below wA.heap.size wA wq)) (fun i _ => t.files.length - (intOf i).toNat)
        case atStart => exact ⟨0, Nat.zero_le _, rfl, UC⟩
        case round =>
          obtain ⟨j, hj, rfl, HQ⟩ := hrel
          have r1 := (HQ.out.cell (World.block_lt_of_cell? _ _ p1)).trans p1
          have r2 := (HQ.out.cell (World.block_lt_of_cell? _ _ p2)).trans p2
          by_cases hj2 : j < t.files.length
          · have hj2' : (j : Int) < (t.files.length : Int) := by omega
            obtain ⟨vf, vn, vs, ev, hf, hnn, _⟩ := SA.out.up HQ.out
            simp at ev
            obtain ⟨rfl, rfl, rfl⟩ := ev
            obtain ⟨b1, o1, cap1, u1, e1, _, _, m0, m1, m2, _⟩ := hf.at j hj2
            simp at e1
            obtain ⟨rfl, rfl⟩ := e1
            obtain ⟨b2, o2, cap2, e2, _, _, _, n1, _⟩ := hnn.at k hlt
            simp at e2
            obtain ⟨rfl, rfl⟩ := e2
            have hsy : (t.files.getD j (0, [], 0)).1 = (t.names.getD k ([], 0)).2 → (t.files.getD j (0, [], 0)).2.2 ≤ (n : Int) := by
              have := HSy.out j hj2
              simpa [List.getD, hj2, hlt] using this
            have HSz : Hid ((t.files.getD j (0, [], 0)).1 = (t.names.getD k ([], 0)).2 → (t.files.getD j (0, [], 0)).2.2 ≤ (n : Int)) := hsy
            clear hsy hf hnn
            generalize t.files.getD j (0, [], 0) = fj at *
            obtain ⟨fi, fd, fs⟩ := fj
            generalize (t.names.getD k ([], 0)).2 = ni at *
            simp only at m0 m1 m2 HSz
            have UD : Hid (∀ m, Below wA.heap.size wA (wr.drewN m)) := fun m => up_trans HQ.out (up_drewN _ _)
            go_upto_region 21 with fail
            go_cut [149] from 126 to 149 (fun s149 wx => s149 = .bool false ∧ Hid (Below wA.heap.size wA wx))
            case first =>
              by_cases hid : fi = ni
              · have hlow : ¬ (n : Int) < fs := by have := HSz.out hid; omega
                subst hid
                go_quiet (fail)
                go_wp2_with fail
                go_meet
                case rel => exact ⟨rfl, UD.out _⟩
              · go_quiet (fail)
                go_wp2_with fail
                go_meet
                case rel => exact ⟨rfl, UD.out _⟩
            case rest =>
            obtain ⟨rfl, HW⟩ := hcut
            go_wp2
            exact ⟨⟨j + 1, by omega, by go_num, HW⟩, by simp [intOf]; omega⟩
          · have hj2' : ¬ (j : Int) < (t.files.length : Int) := by omega
            go_wp2_with fail
            exact ⟨⟨k + 1, by omega, by go_num, HQ⟩, by simp [intOf]; omega⟩
      · have hlt' : ¬ (k : Int) < (t.names.length : Int) := by omega
        go_wp2_with fail
        go_ret
        exact ⟨rfl, up_trans UW.out HB.out⟩
end Go.Proofs.Ytoceddpjkodfkaa

/- The law FilesLast holds: for every state and every slice of numbers the Go function returns true, and what was handed in reads as before; no conditions. -/
namespace Go.Proofs.Ytoceddpjkodfkaa.filesLast
open Go.ChangeShapes Go.WideShapes Go.ChangeAt Go.RowKit
open Go.ChangeMaps (open_string shut_string)
set_option linter.unusedVariables false

theorem own : ownKnob Try.prog.godebug = none := by kernel_rfl
theorem laidOut : laidOutB Try.prog = true := by kernel_rfl

set_option maxRecDepth 100000 in
theorem lifted (os : Os) (started : os.Started) (H : Type) (enc : TypeId × Value → H) :
    ReturnsInHanded {} Try.checked os 6 .any (Rows.filesLastSpec.pre6 enc Try.prog Try.f6 Rows.filesLastRow.domain false) (Rows.filesLastSpec.post enc Try.prog Try.f6 false true false false) := by
  refine returnsInHanded_of_change_sized (C := Try.checked) own started (by kernel_rfl) Try.func6
    (ChangeSpec.witness6 (enc := enc) (C := Try.checked) false ⟨#[], #[.agg #[.int .i64 0, .slice none 0 0, .slice none 0 0, .slice none 0 0, .int .i64 0], .slice none 0 0], []⟩ 8 (by kernel_rfl) (by kernel_rfl) (by kernel_rfl) (by kernel_rfl)) ?_
  intro W base args ds gs before hval0 hW hcnd hsz0 _
  have hsz : (DataW.weightsEach Try.prog (Try.f6.params.toList ++ Rows.filesLastSpec.plain.varTypes Try.prog) (ds ++ gs)).all (· ≤ reachBytes) = true := hsz0
  have hval : ∀ (j : Nat) t v, Try.f6.params[j]? = some t → args[j]? = some v → Value.okWide Try.prog W .any base t v := hval0
  have hW' := hW
  obtain ⟨p, q, hA0, hV, rfl, hfz, hnd⟩ := hW
  have hA : DataW.TrodAll enc Try.prog W 0 (fun _ => true) true Try.f6.params.toList args.toList ds p := hA0
  rw [Try.params6] at hA hval hsz
  obtain ⟨v0, vs0, d0, ds0, p0, q0, hargs, rfl, rfl, h0, r0⟩ := trodAll_cons hA
  obtain ⟨v1, vs1, d1, ds1, p1, q1, rfl, rfl, rfl, h1, r1⟩ := trodAll_cons r0
  obtain ⟨rfl, rfl, rfl⟩ := trodAll_nil r1
  obtain rfl : args = #[v0, v1] := by cases args; simp_all
  obtain ⟨rfl, rfl⟩ := trodVars_none hV
  have k0 := h0
  have lt0 : ∀ x ∈ p0, x.block < W.heap.size := by obtain ⟨m, hm⟩ := k0; exact DataW.trod_lt m _ _ _ hm
  obtain ⟨s0, w0, b0, c0, e0⟩ := arg_state (hval 0 25 v0 rfl rfl) h0 (fun m hm => by simpa using List.all_eq_true.1 hsz m (DataW.weights_mem_each (j := 0) (t := 25) rfl rfl m hm))
  have k1 := h1
  have lt1 : ∀ x ∈ p1, x.block < W.heap.size := by obtain ⟨m, hm⟩ := k1; exact DataW.trod_lt m _ _ _ hm
  obtain ⟨a1, len1, cap1, rfl⟩ := okWide_slice Try.underlying29 (hval 1 29 v1 rfl rfl)
  obtain ⟨l1, w1⟩ := arg_ints h1
  clear hA0 hval0
  refine (last_walk s0 l1 _ _ W w0 w1 b0 c0 e0).mono fun e W' ⟨he, bel⟩ => ?_
  subst he
  exact ⟨_, rfl, _, _, _, [], _, [], hW', trodAll_mk1 (shut_bool Try.underlying4 _), (trodAll_cons_mk (Below.trod laidOut (by kernel_rfl) (of_decide_eq_true (by kernel_rfl)) k0 bel lt0) (trodAll_cons_mk (Below.trod laidOut (by kernel_rfl) (of_decide_eq_true (by kernel_rfl)) k1 bel lt1) trodAll_mk0)), rfl, bel.frame _, fun h => by cases h⟩

theorem over : Rows.filesLastRow.holds Try.pinned (OpenSpec.ofChange Rows.filesLastSpec) :=
  OpenClaim.holds_of_wide 6 Try.f6 rfl rfl rfl rfl rfl rfl rfl ⟨rfl, rfl, rfl, rfl, rfl⟩ rfl rfl rfl rfl rfl (by kernel_rfl) Try.func6 (by kernel_rfl)
    (of_decide_eq_true (by kernel_rfl)) (by unfold Func.isWrapper; first | (rw [if_pos (by decide +kernel)]; kernel_rfl) | (rw [if_neg (by decide +kernel)]; exact ⟨rfl, rfl⟩))
    (fun os started H enc _ => lifted os started H enc)
end Go.Proofs.Ytoceddpjkodfkaa.filesLast

namespace Go.Proofs.Ytoceddpjkodfkaa
theorem filesLast_holds : Rows.FilesLastSaid := filesLast.over
#print axioms filesLast_holds
end Go.Proofs.Ytoceddpjkodfkaa
