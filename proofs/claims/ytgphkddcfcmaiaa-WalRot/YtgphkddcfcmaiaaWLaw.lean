/- The law's own helpers of layer 6: changes copied, a batch for the program, two batches alike, the example. -/
import Derived.Test.YtgphkddcfcmaiaaWEnc2
import Derived.Test.YtgphkddcfcmaiaaFOct
import Derived.Lib.SlBytesConst
namespace Go.Proofs.Ytgphkddcfcmaiaa
open Go.RowKit SumPlain
set_option linter.unusedVariables false

theorem Try.info67 : (Try.prog.info? 67).map (fun i => (i.zero, i.size, i.bytes)) = some (some (.agg #[.string ⟨#[]⟩, .bool false, .string ⟨#[]⟩]), 3, 40) := by kernel_rfl

theorem crow_len (cs : List Chg) : ∀ r ∈ cs.map crow, r.length = 3 := by
  intro r hr
  obtain ⟨c, _, rfl⟩ := List.mem_map.1 hr
  rfl
theorem crow_one (cs : List Chg) : ∀ r ∈ cs.map crow, ∀ u ∈ r, u.oneCell' = true := by
  intro r hr u hu
  obtain ⟨c, _, rfl⟩ := List.mem_map.1 hr
  simp [crow] at hu
  rcases hu with rfl | rfl | rfl <;> rfl

/-- Changes in memory of the call's own. -/
def OwnC (w : World) (base : Nat) (v : Value) (cs : List Chg) : Prop := OwnR w base 67 3 v (cs.map crow)
theorem OwnC.read {w : World} {base : Nat} {v : Value} {cs : List Chg} (h : OwnC w base v cs) : ChgsR w v cs := Rws.own h
theorem OwnC.shape {w : World} {base : Nat} {v : Value} {cs : List Chg} (h : OwnC w base v cs) : ∃ a c, v = .slice a cs.length c := by
  obtain ⟨a, c, e, _, _⟩ := h.read.len
  exact ⟨a, c, e⟩

theorem copyChgs_any (cs : List Chg) (v : Value) (w : World) (hv : ChgsR w v cs) (hl : cs.length * 40 ≤ 140737488355328) :
    Calls Try.prog 30 #[v] w fun e w' => ∃ a c, e = .returned (.slice a cs.length c) ∧ OwnC w' w.heap.size (.slice a cs.length c) cs ∧ Below w.heap.size w w' := by
  obtain ⟨a, cap, rfl, _, _⟩ := hv.len
  have HV : Hid (ChgsR w (.slice a cs.length cap) cs) := hv
  have HL : Hid (cs.length * 40 ≤ 140737488355328) := hl
  clear hv hl
  go_enter Try.func30, Try.ntmps30
  go_wp2_with (at_builtin; refine wpList_append_rows _ rfl _ _ 22 67 _ 3 40 rfl Try.underlying22 Try.info67 rfl (by decide) w.heap.size _ [] rfl (OwnR.nil _ _ _ _) _ (cs.map crow) rfl HV.out (crow_one cs) ?c1 ?c2 (Nat.le_refl _) ?_)
  case c1 => have := HL.out; simp; omega
  case c2 => have := HL.out; simp [maxLen]; omega
  intro v' w' o1 g1
  replace o1 : OwnC w' w.heap.size v' cs := o1
  obtain ⟨a', c', rfl⟩ := OwnC.shape o1
  have B1 : Hid (Below w.heap.size w w') := below_grown g1 (Nat.le_refl _) (fun k hk => by cases hk)
  have O1 : Hid (OwnC w' w.heap.size (.slice a' cs.length c') cs) := o1
  clear o1 g1
  go_wp2
  go_ret
  exact ⟨_, _, rfl, O1.out, B1.out⟩

/-- A batch through the result's own block. -/
theorem results_bat {fn : Func} {t : TypeId} (h : fn.results = #[.cell 2 t]) (hl : t = 26 ∨ t = 24) (tmps : Array Value) (w : World) {N : Nat} {a b : Value} (ht : tmps.getD 2 undef = .pointer (some ⟨N, 0, none⟩))
    (hc : w.heap[N]? = some (.cells #[a, b] t)) : (results fn tmps).run Try.prog w = .ok (.agg #[a, b]) w := by
  have c0 := blk_cell hc 0 a rfl
  have c1 := blk_cell hc 1 b rfl
  have ht' : tmps[2]?.getD undef = .pointer (some ⟨N, 0, none⟩) := by simpa using ht
  rcases hl with rfl | rfl
  · simp only [results, h]
    simp [ht', go_sem, c0, c1]
  · simp only [results, h]
    simp [ht', go_sem, c0, c1]

theorem OwnC.kept {w w' : World} {base : Nat} {v : Value} {cs : List Chg} {r : Option Nat} (h : OwnC w base v cs) (hg : w.grownBy w' r) (hr : ∀ g, r = some g → g < base) : OwnC w' base v cs :=
  OwnR.far h hg (by
    cases hb : v.ownBlock with
    | none => exact .inl rfl
    | some g =>
      refine .inr fun e => ?_
      have := hr g e.symm
      have := (h.2.lt g hb).1
      omega)
theorem OwnC.up {w w' : World} {base : Nat} {v : Value} {cs : List Chg} (h : OwnC w base v cs) (hb : Below w.heap.size w w') : OwnC w' base v cs := OwnR.up h hb
theorem OwnC.mono {w : World} {base base' : Nat} {v : Value} {cs : List Chg} (h : OwnC w base v cs) (hb : base' ≤ base) : OwnC w base' v cs := OwnR.mono h hb

set_option maxHeartbeats 1000000 in
/-- A batch for the program. -/
theorem of_any (s : Int) (cs : List Chg) (a : Option Addr) (c : Nat) (w : World) (hv : ChgsR w (.slice a cs.length c) cs) (hl : cs.length * 40 ≤ 140737488355328) :
    Calls Try.prog 9 #[.agg #[.int .i64 s, .slice a cs.length c]] w fun e w' => ∃ a' c', e = .returned (.agg #[.int .i64 s, .slice a' cs.length c']) ∧ OwnC w' w.heap.size (.slice a' cs.length c') cs ∧ Below w.heap.size w w' := by
  have HC : Hid (Calls Try.prog 30 #[.slice a cs.length c] ((w.alloc (.cells #[.int .i64 s, .slice a cs.length c] 24)).alloc (.cells #[.int .i64 0, .slice none 0 0] 26)).drew fun e w' => ∃ a' c', e = .returned (.slice a' cs.length c') ∧
      w'.cell? ⟨w.heap.size, 0, none⟩ = some (.int .i64 s) ∧ w'.cell? ⟨w.heap.size, 1, none⟩ = some (.slice a cs.length c) ∧ w'.cell? ⟨w.heap.size + 1, 0, none⟩ = some (.int .i64 0) ∧ w'.cell? ⟨w.heap.size + 1, 1, none⟩ = some (.slice none 0 0) ∧ w'.frozen? ⟨w.heap.size + 1, 0, none⟩ = false ∧ w'.frozen? ⟨w.heap.size + 1, 1, none⟩ = false ∧
      Hid (OwnC w' (w.heap.size + 2) (.slice a' cs.length c') cs) ∧ Hid (w'.heap[w.heap.size + 1]? = some (.cells #[.int .i64 0, .slice none 0 0] 26)) ∧ Hid (Below w.heap.size w w')) := by
    refine (copyChgs_any cs _ _ (hv.up (up_dr (up_al (up_alloc _ _) _))) hl).mono ?_
    rintro e w' ⟨a', c', rfl, ho, hb⟩
    have b1 : ((w.alloc (.cells #[.int .i64 s, .slice a cs.length c] 24)).alloc (.cells #[.int .i64 0, .slice none 0 0] 26)).drew.heap[w.heap.size + 1]? = some (.cells #[.int .i64 0, .slice none 0 0] 26) := by
      have h1 := blk_up (blk_new (w.alloc (.cells #[.int .i64 s, .slice a cs.length c] 24)) (.cells #[.int .i64 0, .slice none 0 0] 26)) (up_dr (Below.refl _ _))
      have h2 : (w.alloc (.cells #[.int .i64 s, .slice a cs.length c] 24)).heap.size = w.heap.size + 1 := by simp
      rw [h2] at h1
      exact h1
    have b0 : ((w.alloc (.cells #[.int .i64 s, .slice a cs.length c] 24)).alloc (.cells #[.int .i64 0, .slice none 0 0] 26)).drew.heap[w.heap.size]? = some (.cells #[.int .i64 s, .slice a cs.length c] 24) := by
      exact blk_up (blk_up (blk_new w _) (up_alloc _ _)) (up_dr (Below.refl _ _))
    have d0 := blk_up b0 hb
    have d1 := blk_up b1 hb
    refine ⟨a', c', rfl, blk_cell d0 0 _ rfl, blk_cell d0 1 _ rfl, blk_cell d1 0 _ rfl, blk_cell d1 1 _ rfl, blk_frozen d1 0, blk_frozen d1 1, ?_, d1, up_trans (up_dr (up_al (up_alloc w _) _)) hb⟩
    have h3 := ho
    unfold Hid
    simpa [Nat.add_assoc] using h3
  clear hv hl
  go_enter Try.func9, Try.ntmps9
  go_wp2_with fail
  go_region_held3 (fun w' => w'.cell? ⟨w.heap.size, 0, none⟩ = some (.int .i64 s) ∧ w'.cell? ⟨w.heap.size, 1, none⟩ = some (.slice a cs.length c)) (first | with_reducible exact ⟨y0, y1⟩ | (simp [go_sem, y0, y1]; done) | (simp [go_sem]; done)) (first
    | (go_at_call 30; with_reducible refine HC.out.mono ?_; rintro e w' ⟨a', c', rfl, y0, y1, y2, y3, f2, f3, ho, hd, hb⟩))
  all_goals
    go_wp2_with fail
    refine bodyPost_ret (results_bat rfl (.inl rfl) _ _ rfl (set2_blk hd.out _ _)) rfl ?_
    refine ⟨_, _, rfl, ?_, hb.out.grown (set2_grown _ _ _ _) hb.out.size (fun j hj => by simp at hj; omega)⟩
    exact OwnC.mono (base := w.heap.size + 2) (ho.out.kept (set2_grown _ _ _ _) (fun g hg => by simp at hg; omega)) (by omega)

set_option maxHeartbeats 1000000 in
theorem sameChgs_self (cs : List Chg) (v u : Value) (w : World) (hv : ChgsR w v cs) (hu : ChgsR w u cs) :
    Calls Try.prog 39 #[v, u] w fun e w' => e = .returned (.bool true) ∧ ∃ d, w' = w.drewN d := by
  obtain ⟨a1, cap1, rfl, _, m1⟩ := hv.len
  obtain ⟨a2, cap2, rfl, _, _⟩ := hu.len
  have HV : Hid (ChgsR w (.slice a1 cs.length cap1) cs) := hv
  have HU : Hid (ChgsR w (.slice a2 cs.length cap2) cs) := hu
  have hm : cs.length ≤ 9223372036854775807 := by obtain ⟨_, _, e, h1, h2⟩ := hv.len; unfold maxLen at h2; omega
  clear hv hu m1
  go_enter Try.func39, Try.ntmps39
  go_wp2
  go_loopw [5] (fun i wr => ∃ k : Nat, k ≤ cs.length ∧ i = .int .i64 k ∧ Hid (∃ d, wr = w.drewN d)) (fun i _ => cs.length - (intOf i).toNat)
  case atStart => exact ⟨0, Nat.zero_le _, rfl, 0, rfl⟩
  case round =>
    obtain ⟨k, hk, rfl, HW⟩ := hrel
    by_cases hlt : k < cs.length
    · have hlt' : (k : Int) < (cs.length : Int) := by omega
      obtain ⟨d, rfl⟩ := HW.out
      obtain ⟨b, off, cap, ch, e, q1, q2, hcs, c0, c1, c2⟩ := HV.out.at k hlt
      obtain ⟨b', off', cap', ch', e', q1', q2', hcs', d0, d1, d2⟩ := HU.out.at k hlt
      rw [hcs] at hcs'
      injection hcs' with hcs'
      subst hcs'
      simp at e e'
      obtain ⟨rfl, rfl⟩ := e
      obtain ⟨rfl, rfl⟩ := e'
      clear hcs
      obtain ⟨ck, cd, cv⟩ := ch
      simp only at c0 c1 c2 d0 d1 d2
      cases cd
      · go_wp2_with fail
        go_quiet (fail)
        go_wp2
        exact ⟨⟨k + 1, hlt, by go_num, ⟨_, rfl⟩⟩, by simp [intOf]; omega⟩
      · go_wp2_with fail
        go_quiet (fail)
        go_wp2
        exact ⟨⟨k + 1, hlt, by go_num, ⟨_, rfl⟩⟩, by simp [intOf]; omega⟩
    · have hlt' : ¬ (k : Int) < (cs.length : Int) := by omega
      go_wp2
      go_ret
      exact ⟨rfl, HW.out⟩
end Go.Proofs.Ytgphkddcfcmaiaa
