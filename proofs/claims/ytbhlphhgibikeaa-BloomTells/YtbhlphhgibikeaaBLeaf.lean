/- The leaves: octets copied, compared, spoiled; a filter as the law copies and compares it. -/
import Derived.Test.YtbhlphhgibikeaaLBlk
import Derived.Deep.RegionHeld3
namespace Go.Proofs.Ytbhlphhgibikeaa
open Go.RowKit
set_option linter.unusedVariables false

theorem Octs.at {w : World} {v : Value} {l : List Int} (h : Octs w v l) (k : Nat) (hk : k < l.length) :
    ∃ b off cap, v = .slice (some ⟨b, off, none⟩) l.length cap ∧ l.length ≤ cap ∧ cap ≤ maxLen ∧ w.cell? ⟨b, off + k, none⟩ = some (.int .u8 (l.getD k 0)) := by
  obtain ⟨_, h⟩ := h
  rcases h with ⟨rfl, _⟩ | ⟨hn, b, off, cap, rfl, hc, hm, hj⟩
  · simp at hk
  · exact ⟨b, off, cap, rfl, hc, hm, hj k _ (by simp [List.getD, hk])⟩

theorem Octs.len {w : World} {v : Value} {l : List Int} (h : Octs w v l) : ∃ a cap, v = .slice a l.length cap ∧ l.length ≤ cap ∧ l.length ≤ maxLen := by
  obtain ⟨_, h⟩ := h
  rcases h with ⟨rfl, a, cap, rfl, _⟩ | ⟨hn, b, off, cap, rfl, hc, hm, hj⟩
  · exact ⟨a, cap, rfl, Nat.zero_le _, Nat.zero_le _⟩
  · exact ⟨_, cap, rfl, hc, by omega⟩

theorem Octs.oct {w : World} {v : Value} {l : List Int} (h : Octs w v l) (k : Nat) (hk : k < l.length) : 0 ≤ l.getD k 0 ∧ l.getD k 0 ≤ 255 := h.1 _ (by simp [List.getD, hk])

set_option maxHeartbeats 400000 in
theorem copy_any (l : List Int) (v : Value) (w : World) (hv : Octs w v l) (hl : l.length ≤ 140737488355328) :
    Calls Try.prog 21 #[v] w fun e w' => ∃ v', e = .returned v' ∧ OwnB w' w.heap.size v' l ∧ Below w.heap.size w w' := by
  have HV : Hid (Octs w v l) := hv
  clear hv
  go_enter Try.func21, Try.ntmps21
  go_wp2_with (at_builtin; refine wpList_append_octs _ rfl _ _ rfl w.heap.size _ [] rfl (World.ownsRow_nil _ _ _ _) _ l rfl HV.out ?c1 (Nat.le_refl _) ?_)
  case c1 => simpa using hl
  intro v' w' hown hg
  go_wp2
  go_ret
  refine ⟨_, rfl, hown, ?_⟩
  exact (Below.refl _ _).grown hg (Nat.le_refl _) (by simp [Value.ownBlock])

set_option maxHeartbeats 400000 in
theorem copied_any (l : List Int) (v : Value) (w : World) (hv : Octs w v l) (hl : l.length ≤ 140737488355328) :
    Calls Try.prog 32 #[v] w fun e w' => ∃ v', e = .returned v' ∧ OwnB w' w.heap.size v' l ∧ Below w.heap.size w w' := by
  have HV : Hid (Octs w v l) := hv
  clear hv
  go_enter Try.func32, Try.ntmps32
  go_wp2_with (at_builtin; refine wpList_append_octs _ rfl _ _ rfl w.heap.size _ [] rfl (World.ownsRow_nil _ _ _ _) _ l rfl HV.out ?c1 (Nat.le_refl _) ?_)
  case c1 => simpa using hl
  intro v' w' hown hg
  go_wp2
  go_ret
  refine ⟨_, rfl, hown, ?_⟩
  exact (Below.refl _ _).grown hg (Nat.le_refl _) (by simp [Value.ownBlock])

theorem same_any (l1 l2 : List Int) (v1 v2 : Value) (w : World) (h1 : Octs w v1 l1) (h2 : Octs w v2 l2) :
    Calls Try.prog 26 #[v1, v2] w fun e w' => e = .returned (.bool (decide (l1 = l2))) ∧ w' = w := by
  have k1 := run_convert_octs l1 v1 w h1
  have k2 := run_convert_octs l2 v2 w h2
  have H : Hid (((strOfNums l1).toList == (strOfNums l2).toList) = decide (l1 = l2)) := str_eq l1 l2 h1.1 h2.1
  go_enter Try.func26, Try.ntmps26
  go_wp2
  go_ret
  exact ⟨ret_bool H.out, rfl⟩

theorem OwnB.mono {w : World} {base base' : Nat} {v : Value} {l : List Int} (h : OwnB w base v l) (hb : base' ≤ base) : OwnB w base' v l := by
  obtain ⟨h1, h2⟩ := h
  refine ⟨h1, ?_⟩
  rcases h2 with h0 | ⟨g, cap, cur, rfl, hg, r⟩
  · exact .inl h0
  · exact .inr ⟨g, cap, cur, rfl, Nat.le_trans hb hg, r⟩

theorem own_len {w : World} {base : Nat} {v : Value} {l : List Int} (h : OwnB w base v l) : ∃ a cap, v = .slice a l.length cap ∧ l.length ≤ cap := by
  obtain ⟨_, h⟩ := h
  rcases h with ⟨rfl, h0⟩ | ⟨g, cap, cur, rfl, _, _, hn, _⟩
  · exact ⟨none, 0, by rw [h0], by omega⟩
  · exact ⟨_, cap, rfl, hn⟩

theorem own_shape {w : World} {base : Nat} {v : Value} {l : List Int} (h : OwnB w base v l) : ∃ a n c, v = .slice a n c ∧ Hid (n = l.length) := by
  obtain ⟨a, c, e, _⟩ := own_len h
  exact ⟨a, _, c, e, rfl⟩

theorem xor_u8 (a b : Int) : 0 ≤ bits .xor .u8 a b ∧ bits .xor .u8 a b ≤ 255 := by
  show 0 ≤ IntKind.u8.wrap _ ∧ IntKind.u8.wrap _ ≤ 255
  rw [IntKind.wrap_u8']
  omega

set_option maxHeartbeats 1000000 in
theorem spoil_any (l : List Int) (v : Value) (w : World) (base : Nat) (hv : OwnB w base v l) (hx : ∀ x ∈ l, 0 ≤ x ∧ x ≤ 255) (hl : l.length ≤ 140737488355328) :
    Calls Try.prog 27 #[v] w fun e w' => (∃ u, e = .returned u) ∧ w.grownBy w' v.ownBlock := by
  obtain ⟨a, cap, rfl, hcap⟩ := own_len hv
  obtain ⟨n, hn⟩ : ∃ n, n = l.length := ⟨_, rfl⟩
  have HV : Hid (OwnB w base (.slice a n cap) l ∧ l.length = n ∧ ∀ x ∈ l, 0 ≤ x ∧ x ≤ 255) := by subst hn; exact ⟨hv, rfl, hx⟩
  rw [← hn] at hcap hl ⊢
  clear hv hn hx
  go_enter Try.func27, Try.ntmps27
  go_wp2
  go_loopw [2] (fun i wr => ∃ (k : Nat) (l' : List Int), k ≤ n ∧ i = .int .i64 k ∧ Hid (OwnB wr base (.slice a n cap) l' ∧ l'.length = n ∧ ∀ x ∈ l', 0 ≤ x ∧ x ≤ 255) ∧ Hid (w.grownBy wr (Value.slice a n cap).ownBlock)) (fun i _ => n - (intOf i).toNat)
  case atStart => exact ⟨0, l, Nat.zero_le _, rfl, HV, grown_refl _ _⟩
  case round =>
    obtain ⟨k, l', hk, rfl, HO, HG⟩ := hrel
    by_cases hlt : k < n
    · have hlt' : (k : Int) < (n : Int) := by omega
      obtain ⟨ho, hn', hoct⟩ := HO.out
      obtain ⟨g, rfl⟩ : ∃ g, a = some ⟨g, 0, none⟩ := by
        obtain ⟨_, h⟩ := ho
        rcases h with ⟨e, h0⟩ | ⟨g, c2, cur, e, _⟩
        · rw [hn'] at h0
          omega
        · simp at e
          exact ⟨g, e.1⟩
      unfold OwnB at ho
      rw [hn'] at ho
      have hc0 := ho.cellAt k (by omega)
      have hf0 := ho.frozenAt k
      obtain ⟨y, hy⟩ : ∃ y, l'[k]? = some y := ⟨_, List.getElem?_eq_getElem (by omega)⟩
      rw [List.getElem?_map, hy] at hc0
      simp only [Option.map_some] at hc0
      obtain ⟨y0, y1⟩ := hoct y (List.mem_of_getElem? hy)
      have HSt : Hid (∀ z : Int, OwnB (wr.setCell ⟨g, k, none⟩ (.int .u8 z)) base (.slice (some ⟨g, 0, none⟩) n cap) (l'.set k z) ∧ wr.grownBy (wr.setCell ⟨g, k, none⟩ (.int .u8 z)) (some g)) := by
        intro z
        have hst := ho.stored k (.int .u8 z)
        refine ⟨?_, hst.2⟩
        unfold OwnB
        rw [List.length_set, hn', List.map_set]
        exact hst.1
      have HOct : Hid (∀ z : Int, 0 ≤ z ∧ z ≤ 255 → ∀ x ∈ l'.set k z, 0 ≤ x ∧ x ≤ 255) := by
        intro z hz x hx
        rcases List.mem_or_eq_of_mem_set hx with h1 | h1
        · exact hoct x h1
        · rw [h1]; exact hz
      clear ho hoct
      go_wp2
      exact ⟨⟨k + 1, l'.set k _, by omega, by go_num, ⟨(HSt.out _).1, by rw [List.length_set]; exact hn', HOct.out _ (xor_u8 _ _)⟩, grown_trans HG.out (HSt.out _).2⟩, by simp [intOf]; omega⟩
    · have hlt' : ¬ (k : Int) < (n : Int) := by omega
      go_wp2
      go_end0
      exact ⟨⟨_, rfl⟩, HG.out⟩

/-- What lies in another block is as it was. -/
theorem Octs.far {w w' : World} {v : Value} {l : List Int} {r : Option Nat} (h : Octs w v l) (hg : w.grownBy w' r) (hne : ∀ b, v.ownBlock = some b → l ≠ [] → some b ≠ r) : Octs w' v l :=
  h.moved fun b off x hn hv hc => hg.cell hc (hne b hv hn)

theorem Octs.lt {w : World} {v : Value} {l : List Int} (h : Octs w v l) (b : Nat) (hb : v.ownBlock = some b) (hn : l ≠ []) : b < w.heap.size := by
  obtain ⟨_, h⟩ := h
  rcases h with ⟨h0, _⟩ | ⟨_, b', off, cap, rfl, _, _, hj⟩
  · exact absurd h0 hn
  · simp [Value.ownBlock] at hb
    subst hb
    cases l with
    | nil => exact absurd rfl hn
    | cons x r => exact World.block_lt_of_cell? w ⟨b', off + 0, none⟩ (hj 0 x rfl)

/-- A record is stored into a block. -/
def set2 (w : World) (N : Nat) (a b : Value) : World := (w.setCell ⟨N, 0, none⟩ a).setCell ⟨N, 1, none⟩ b
theorem set2_blk {w : World} {N : Nat} {t : TypeId} {x0 x1 : Value} (h : w.heap[N]? = some (.cells #[x0, x1] t)) (a b : Value) : (set2 w N a b).heap[N]? = some (.cells #[a, b] t) :=
  blk_set (blk_set h 0 a) 1 b
theorem set2_grown (w : World) (N : Nat) (a b : Value) : w.grownBy (set2 w N a b) (some N) :=
  grown_trans (grown_set w ⟨N, 0, none⟩ a) (grown_set _ ⟨N, 1, none⟩ b)

/-- A record through the result's own block, and two numbers. -/
theorem results_rec3 {fn : Func} {t : TypeId} (h : fn.results = #[.cell 2 t, .tmp 3, .tmp 4]) (hl : t = 27 ∨ t = 25) (tmps : Array Value) (w : World) {N : Nat} {a b : Value} (ht : tmps.getD 2 undef = .pointer (some ⟨N, 0, none⟩))
    (hc : w.heap[N]? = some (.cells #[a, b] t)) : (results fn tmps).run Try.prog w = .ok (.tuple #[.agg #[a, b], tmps.getD 3 undef, tmps.getD 4 undef]) w := by
  have c0 := blk_cell hc 0 a rfl
  have c1 := blk_cell hc 1 b rfl
  have ht' : tmps[2]?.getD undef = .pointer (some ⟨N, 0, none⟩) := by simpa using ht
  rcases hl with rfl | rfl
  · simp only [results, h]
    simp [ht', go_sem, c0, c1]
  · simp only [results, h]
    simp [ht', go_sem, c0, c1]

theorem results_rec {fn : Func} {t : TypeId} (h : fn.results = #[.cell 2 t]) (hl : t = 27 ∨ t = 25) (tmps : Array Value) (w : World) {N : Nat} {a b : Value} (ht : tmps.getD 2 undef = .pointer (some ⟨N, 0, none⟩))
    (hc : w.heap[N]? = some (.cells #[a, b] t)) : (results fn tmps).run Try.prog w = .ok (.agg #[a, b]) w := by
  have c0 := blk_cell hc 0 a rfl
  have c1 := blk_cell hc 1 b rfl
  have ht' : tmps[2]?.getD undef = .pointer (some ⟨N, 0, none⟩) := by simpa using ht
  rcases hl with rfl | rfl
  · simp only [results, h]
    simp [ht', go_sem, c0, c1]
  · simp only [results, h]
    simp [ht', go_sem, c0, c1]

/-- The slice v holds the octets l, and lies in no block below base. -/
def NewB (w : World) (base : Nat) (v : Value) (l : List Int) : Prop := Octs w v l ∧ ∀ g, v.ownBlock = some g → base ≤ g

theorem NewB.far {w w' : World} {base : Nat} {v : Value} {l : List Int} (h : NewB w base v l) {r : Option Nat} (hg : w.grownBy w' r) (hr : ∀ g, v.ownBlock = some g → r ≠ some g) : NewB w' base v l := by
  refine ⟨h.1.moved ?_, h.2⟩
  intro b off x hne hb hc
  have hlt : b < w.heap.size := by
    rcases Nat.lt_or_ge b w.heap.size with q | q
    · exact q
    · simp [World.cell?, Array.getElem?_eq_none q] at hc
  rw [hg.cell_far ⟨b, off, none⟩ hlt (fun e => hr b hb e.symm)]
  exact hc
theorem NewB.up {w w' : World} {base : Nat} {v : Value} {l : List Int} (h : NewB w base v l) (hb : Below w.heap.size w w') : NewB w' base v l := ⟨h.1.up hb, h.2⟩
theorem NewB.mono {w : World} {base base' : Nat} {v : Value} {l : List Int} (h : NewB w base v l) (hb : base' ≤ base) : NewB w base' v l := ⟨h.1, fun g e => Nat.le_trans hb (h.2 g e)⟩
theorem OwnB.fresh {w : World} {base : Nat} {v : Value} {l : List Int} (h : OwnB w base v l) (hx : ∀ x ∈ l, 0 ≤ x ∧ x ≤ 255) : NewB w base v l := ⟨Octs.own h hx, fun g e => (h.lt g e).1⟩
theorem NewB.nil (w : World) (base : Nat) : NewB w base (.slice none 0 0) [] := (OwnB.nil w base).fresh (by simp)

theorem num_any (n : Int) (w : World) : Calls Try.prog 18 #[.int .i64 n] w fun e w' => e = .returned (.int .i64 n) ∧ w' = w := by
  go_enter Try.func18, Try.ntmps18
  go_wp2
  go_ret
  exact ⟨rfl, rfl⟩

/-- Two filters are alike: their kinds, their octets. -/
theorem same2_any (k1 k2 : Int) (l1 l2 : List Int) (v1 v2 : Value) (w : World) (h1 : Octs w v1 l1) (h2 : Octs w v2 l2) :
    Calls Try.prog 17 #[.agg #[.int .i64 k1, v1], .agg #[.int .i64 k2, v2]] w fun e w' => e = .returned (.bool (decide (k1 = k2) && decide (l1 = l2))) ∧ Below w.heap.size w w' := by
  obtain ⟨a1, c1, rfl, _, _⟩ := h1.len
  obtain ⟨a2, c2, rfl, _, _⟩ := h2.len
  have HS : Hid (∀ o1 o2, Calls Try.prog 26 #[.slice a1 l1.length c1, .slice a2 l2.length c2] ((w.alloc o1).alloc o2) fun e w' => e = .returned (.bool (decide (l1 = l2))) ∧ w' = ((w.alloc o1).alloc o2)) := fun o1 o2 =>
    same_any l1 l2 _ _ _ (h1.up (up_al (up_alloc _ _) _)) (h2.up (up_al (up_alloc _ _) _))
  have U : Hid (∀ o1 o2, Below w.heap.size w ((w.alloc o1).alloc o2)) := fun o1 o2 => up_al (up_alloc _ _) _
  clear h1 h2
  by_cases hk : k1 = k2
  · have hk' : (k1 == k2) = true := by simp [hk]
    go_enter Try.func17, Try.ntmps17
    go_wp2_with fail
    refine (HS.out _ _).mono ?_
    rintro e w1 ⟨rfl, rfl⟩
    go_wp2
    go_ret
    refine ⟨ret_bool (by simp [hk]), U.out _ _⟩
  · have hk' : (k1 == k2) = false := by simp [hk]
    go_enter Try.func17, Try.ntmps17
    go_wp2
    go_ret
    refine ⟨ret_bool (by simp [hk]), U.out _ _⟩

set_option maxHeartbeats 1000000 in
/-- A record for the program. -/
theorem of_any (k : Int) (l : List Int) (a : Option Addr) (c : Nat) (w : World) (hv : Octs w (.slice a l.length c) l) (hl : l.length ≤ 140737488355328) :
    Calls Try.prog 10 #[.agg #[.int .i64 k, .slice a l.length c]] w fun e w' => ∃ a' n' c', e = .returned (.agg #[.int .i64 k, .slice a' n' c']) ∧ Hid (n' = l.length) ∧ OwnB w' w.heap.size (.slice a' n' c') l ∧ Below w.heap.size w w' := by
  have HC : Hid (Calls Try.prog 21 #[.slice a l.length c] ((w.alloc (.cells #[.int .i64 k, .slice a l.length c] 25)).alloc (.cells #[.int .i64 0, .slice none 0 0] 27)).drew fun e w' => ∃ a' n' c', e = .returned (.slice a' n' c') ∧
      w'.cell? ⟨w.heap.size, 0, none⟩ = some (.int .i64 k) ∧ w'.cell? ⟨w.heap.size, 1, none⟩ = some (.slice a l.length c) ∧ w'.cell? ⟨w.heap.size + 1, 0, none⟩ = some (.int .i64 0) ∧ w'.cell? ⟨w.heap.size + 1, 1, none⟩ = some (.slice none 0 0) ∧ w'.frozen? ⟨w.heap.size + 1, 0, none⟩ = false ∧ w'.frozen? ⟨w.heap.size + 1, 1, none⟩ = false ∧
      Hid (n' = l.length) ∧ Hid (OwnB w' (w.heap.size + 2) (.slice a' n' c') l) ∧ Hid (w'.heap[w.heap.size + 1]? = some (.cells #[.int .i64 0, .slice none 0 0] 27)) ∧ Hid (Below w.heap.size w w')) := by
    refine (copy_any l _ _ (hv.up (up_dr (up_al (up_alloc _ _) _))) hl).mono ?_
    rintro e w' ⟨v', rfl, ho, hb⟩
    obtain ⟨a', n', c', rfl, hn⟩ := own_shape ho
    have b1 : ((w.alloc (.cells #[.int .i64 k, .slice a l.length c] 25)).alloc (.cells #[.int .i64 0, .slice none 0 0] 27)).drew.heap[w.heap.size + 1]? = some (.cells #[.int .i64 0, .slice none 0 0] 27) := by
      have h1 := blk_up (blk_new (w.alloc (.cells #[.int .i64 k, .slice a l.length c] 25)) (.cells #[.int .i64 0, .slice none 0 0] 27)) (up_dr (Below.refl _ _))
      have h2 : (w.alloc (.cells #[.int .i64 k, .slice a l.length c] 25)).heap.size = w.heap.size + 1 := by simp
      rw [h2] at h1
      exact h1
    have b0 : ((w.alloc (.cells #[.int .i64 k, .slice a l.length c] 25)).alloc (.cells #[.int .i64 0, .slice none 0 0] 27)).drew.heap[w.heap.size]? = some (.cells #[.int .i64 k, .slice a l.length c] 25) := by
      exact blk_up (blk_up (blk_new w _) (up_alloc _ _)) (up_dr (Below.refl _ _))
    have d0 := blk_up b0 hb
    have d1 := blk_up b1 hb
    refine ⟨a', n', c', rfl, blk_cell d0 0 _ rfl, blk_cell d0 1 _ rfl, blk_cell d1 0 _ rfl, blk_cell d1 1 _ rfl, blk_frozen d1 0, blk_frozen d1 1, hn, ?_, d1, up_trans (up_dr (up_al (up_alloc w _) _)) hb⟩
    have h3 := ho
    unfold Hid
    simpa [Nat.add_assoc] using h3
  clear hv
  go_enter Try.func10, Try.ntmps10
  go_wp2_with fail
  go_region_held3 (fun w' => w'.cell? ⟨w.heap.size, 0, none⟩ = some (.int .i64 k) ∧ w'.cell? ⟨w.heap.size, 1, none⟩ = some (.slice a l.length c)) (first | with_reducible exact ⟨y0, y1⟩ | (simp [go_sem, y0, y1]; done) | (simp [go_sem]; done)) (first
    | (go_at_call 21; with_reducible refine HC.out.mono ?_; rintro e w' ⟨a', n', c', rfl, y0, y1, y2, y3, f2, f3, hn, ho, hd, hb⟩))
  all_goals
    go_wp2_with fail
    refine bodyPost_ret (results_rec rfl (.inl rfl) _ _ rfl (set2_blk hd.out _ _)) rfl ?_
    refine ⟨_, _, _, rfl, hn, ?_, hb.out.grown (set2_grown _ _ _ _) hb.out.size (fun j hj => by simp at hj; omega)⟩
    have h2 := ho.out
    exact OwnB.mono (base := w.heap.size + 2) (h2.kept (set2_grown _ _ _ _) (.inr fun e => by have := (h2.lt _ e).1; omega)) (by omega)
end Go.Proofs.Ytbhlphhgibikeaa
