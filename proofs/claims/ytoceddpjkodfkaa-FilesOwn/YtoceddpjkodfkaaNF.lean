/- The law FilesOwn holds: for every state and act the Go function returns true, and what was handed in reads as before; no conditions. -/
import Derived.Test.YtoceddpjkodfkaaNC
import Derived.Test.YtoceddpjkodfkaaRows
import Derived.Test.YtoceddpjkodfkaaV1
import Derived.WalkKit
import Derived.ProofKit
import Derived.OpenShut
import Derived.ShutString
import Derived.ChangeOld
import Derived.Below
import Derived.SizedLaws

/- What is spoiled: the law's Spoil, and memory of its own that is written. -/
namespace Go.Proofs.Ytoceddpjkodfkaa
open Go.RowKit
set_option linter.unusedVariables false
set_option linter.unusedSimpArgs false

theorem xor_u8 (a b : Int) : 0 ≤ bits .xor .u8 a b ∧ bits .xor .u8 a b ≤ 255 := by
  show 0 ≤ IntKind.u8.wrap _ ∧ IntKind.u8.wrap _ ≤ 255
  rw [IntKind.wrap_u8']
  omega

set_option maxHeartbeats 1000000 in
theorem spoil_any (l : List Int) (v : Value) (w : World) (base : Nat) (hv : OwnB w base v l) (hx : OctL l) :
    Calls Try.prog 29 #[v] w fun e w' => e = .returned (.tuple #[]) ∧ w.grownBy w' v.ownBlock ∧ ∃ l', OwnB w' base v l' ∧ l'.length = l.length ∧ OctL l' := by
  obtain ⟨a, cap, rfl, hcap⟩ := (Octs.own hv hx).slice
  have hmx : l.length ≤ 9223372036854775807 := by
    obtain ⟨_, hh⟩ := Octs.own hv hx
    rcases hh with ⟨h0, _⟩ | ⟨_, _, _, _, _, h1, h2, _⟩
    · rw [h0]; simp
    · unfold maxLen at h2
      omega
  obtain ⟨n, hn⟩ : ∃ n, n = l.length := ⟨_, rfl⟩
  have HV : Hid (OwnB w base (.slice a n cap) l ∧ l.length = n ∧ ∀ x ∈ l, 0 ≤ x ∧ x ≤ 255) := by subst hn; exact ⟨hv, rfl, hx⟩
  rw [← hn] at hcap hmx ⊢
  clear hv hn hx
  go_enter Try.func29, Try.ntmps29
  go_wp2
  go_loopw [2] (fun i wr => ∃ (k : Nat) (l' : List Int), k ≤ n ∧ i = .int .i64 k ∧ Hid (OwnB wr base (.slice a n cap) l' ∧ l'.length = n ∧ ∀ x ∈ l', 0 ≤ x ∧ x ≤ 255) ∧ Hid (w.grownBy wr (Value.slice a n cap).ownBlock)) (fun i _ => n - (intOf i).toNat)
  case atStart => exact ⟨0, l, Nat.zero_le _, rfl, HV, grown_refl _ _⟩
  case round =>
    obtain ⟨k, l', hk, rfl, HO, HG⟩ := hrel
    by_cases hlt : k < n
    · have hlt' : (k : Int) < (n : Int) := by omega
      obtain ⟨ho, hn', hoct⟩ := HO.out
      obtain ⟨g, rfl⟩ : ∃ g, a = some ⟨g, 0, none⟩ := by
        obtain ⟨_, h⟩ := ho
        rcases h with ⟨e, h0⟩ | ⟨g, c2, cur, e, _⟩
        · rw [hn'] at h0
          omega
        · simp at e
          exact ⟨g, e.1⟩
      unfold OwnB at ho
      rw [hn'] at ho
      have hc0 := ho.cellAt k (by omega)
      have hf0 := ho.frozenAt k
      obtain ⟨y, hy⟩ : ∃ y, l'[k]? = some y := ⟨_, List.getElem?_eq_getElem (by omega)⟩
      rw [List.getElem?_map, hy] at hc0
      simp only [Option.map_some] at hc0
      obtain ⟨y0, y1⟩ := hoct y (List.mem_of_getElem? hy)
      have HSt : Hid (∀ z : Int, OwnB (wr.setCell ⟨g, k, none⟩ (.int .u8 z)) base (.slice (some ⟨g, 0, none⟩) n cap) (l'.set k z) ∧ wr.grownBy (wr.setCell ⟨g, k, none⟩ (.int .u8 z)) (some g)) := by
        intro z
        have hst := ho.stored k (.int .u8 z)
        refine ⟨?_, hst.2⟩
        unfold OwnB
        rw [List.length_set, hn', List.map_set]
        exact hst.1
      have HOct : Hid (∀ z : Int, 0 ≤ z ∧ z ≤ 255 → ∀ x ∈ l'.set k z, 0 ≤ x ∧ x ≤ 255) := by
        intro z hz x hx
        rcases List.mem_or_eq_of_mem_set hx with h1 | h1
        · exact hoct x h1
        · rw [h1]; exact hz
      clear ho hoct
      go_wp2
      exact ⟨⟨k + 1, l'.set k _, by omega, by go_num, ⟨(HSt.out _).1, by rw [List.length_set]; exact hn', HOct.out _ (xor_u8 _ _)⟩, grown_trans HG.out (HSt.out _).2⟩, by simp [intOf]; omega⟩
    · have hlt' : ¬ (k : Int) < (n : Int) := by omega
      go_wp2
      go_end0
      exact ⟨rfl, HG.out, l', HO.out⟩

theorem OwnF.spoiled {w w' : World} {base : Nat} {v : Value} {m : List FRow} (h : OwnF w base v m) {i : Nat} (hi : i < m.length) (hg : w.grownBy w' (m.getD i noF).1.ownBlock) {l' : List Int} (ob : OwnB w' base (m.getD i noF).1 l') (hl : l'.length = (m.getD i noF).2.2.1.length) (ho : OctL l') :
    OwnF w' base v (m.set i ((m.getD i noF).1, (m.getD i noF).2.1, l', (m.getD i noF).2.2.2)) := by
  have hmem : m.getD i noF ∈ m := by simp [List.getD, hi]
  have hi0 := h.2.1 _ hmem
  have hR1 := h.1.far hg (own_own_ne h.1.2 hi0.1 (by decide))
  have hrow : (m.set i ((m.getD i noF).1, (m.getD i noF).2.1, l', (m.getD i noF).2.2.2)).map frow = m.map frow := by
    apply List.ext_getElem (by simp)
    intro j h1 h2
    have hj : j < m.length := by simpa using h2
    rw [List.getElem_map, List.getElem_map, List.getElem_set]
    by_cases e : i = j
    · rw [if_pos e]
      subst e
      simp [frow, List.getD, hi]
    · rw [if_neg e]
  refine ⟨by rw [hrow]; exact hR1, ?_, ?_⟩
  · intro y hy
    obtain ⟨j, hj, rfl⟩ := List.getElem_of_mem hy
    have hj' : j < m.length := by simpa using hj
    rw [List.getElem_set]
    by_cases e : i = j
    · rw [if_pos e]
      exact ⟨ob, ho, by rw [hl]; exact hi0.2.2.1, hi0.2.2.2.1, hi0.2.2.2.2⟩
    · rw [if_neg e]
      have e1 : m.getD j noF = m[j] := by simp [List.getD, hj']
      have h1 := h.2.1 m[j] (List.getElem_mem hj')
      have ha := apart_at h.2.2 j i hj' hi (fun q => e q.symm)
      rw [e1] at ha
      exact ⟨h1.1.far hg ha, h1.2⟩
  · refine pairwise_set hi h.2.2 fun j hj hne => ?_
    exact apart_at h.2.2 i j hi hj (fun q => hne q.symm)

theorem OwnF.ided {w : World} {base g n c : Nat} {m : List FRow} (h : OwnF w base (.slice (some ⟨g, 0, none⟩) n c) m) (hn : m.length = n) (i : Nat) (hi : i < n) (k : Int) (hk : In64 k) :
    OwnF (w.setCell ⟨g, i * 3, none⟩ (.int .i64 k)) base (.slice (some ⟨g, 0, none⟩) n c) (m.set i ((m.getD i noF).1, k, (m.getD i noF).2.2.1, (m.getD i noF).2.2.2)) := by
  have st := OwnR.set h.1 (by rw [List.length_map]; exact hn) i hi 0 (by decide) (.int .i64 k)
  rw [Nat.add_zero] at st
  have hmem : m.getD i noF ∈ m := by
    have : i < m.length := by omega
    simp [List.getD, this]
  have hrow : ((m.map frow).getD i []).set 0 (.int .i64 k) = frow ((m.getD i noF).1, k, (m.getD i noF).2.2.1, (m.getD i noF).2.2.2) := by
    have : i < m.length := by omega
    simp [List.getD, this, frow]
  rw [hrow, ← List.map_set] at st
  refine ⟨st.1, ?_, ?_⟩
  · intro y hy
    rcases List.mem_or_eq_of_mem_set hy with q | q
    · have := h.2.1 y q
      exact ⟨this.1.far st.2.1 (own_own_ne this.1 h.1.2 (by decide)), this.2⟩
    · have := h.2.1 _ hmem
      rw [q]
      exact ⟨this.1.far st.2.1 (own_own_ne this.1 h.1.2 (by decide)), this.2.1, this.2.2.1, hk, this.2.2.2.2⟩
  · refine pairwise_set (by omega) h.2.2 fun j hj hne => ?_
    exact apart_at h.2.2 i j (by omega) hj (fun q => hne q.symm)

theorem OwnN.ided {w : World} {base g n c : Nat} {l : List (List Int × Int)} (h : OwnN w base 73 (.slice (some ⟨g, 0, none⟩) n c) l) (hn : l.length = n) (i : Nat) (hi : i < n) (k : Int) (hk : In64 k) :
    OwnN (w.setCell ⟨g, i * 2 + 1, none⟩ (.int .i64 k)) base 73 (.slice (some ⟨g, 0, none⟩) n c) (l.set i ((l.getD i ([], 0)).1, k)) := by
  have st := OwnR.set h.2 (by rw [List.length_map]; exact hn) i hi 1 (by decide) (.int .i64 k)
  have hmem : l.getD i ([], 0) ∈ l := by
    have : i < l.length := by omega
    simp [List.getD, this]
  have hrow : ((l.map nrow).getD i []).set 1 (.int .i64 k) = nrow ((l.getD i ([], 0)).1, k) := by
    have : i < l.length := by omega
    simp [List.getD, this, nrow]
  rw [hrow, ← List.map_set] at st
  refine ⟨?_, st.1⟩
  intro p hp
  rcases List.mem_or_eq_of_mem_set hp with q | q
  · exact h.1 p q
  · rw [q]
    have := h.1 _ hmem
    exact ⟨this.1, this.2.1, hk⟩

theorem OwnV.keep {w w' : World} {base : Nat} {v : Value} {s : St} {r : Option Nat} (h : OwnV w base v s) (hg : w.grownBy w' r) (hr : ∀ k, r = some k → k < base) : OwnV w' base v s := by
  obtain ⟨vf, vn, vs, m, e, hm, of, on, os, hap, hi⟩ := h
  have ne : ∀ {e sz : Nat} {v : Value} {n : Nat} {xs : List Value}, w.ownsRow base e sz v n xs → v.ownBlock = none ∨ v.ownBlock ≠ r := by
    intro e sz v n xs ho
    cases hv : v.ownBlock with
    | none => exact .inl rfl
    | some g =>
      refine .inr fun q => ?_
      have := (ho.lt g hv).1
      have := hr g q.symm
      omega
  exact ⟨vf, vn, vs, m, e, hm, of.far hg (ne of.1.2) (fun y hy => ne (of.2.1 y hy).1), on.far hg (ne on.2.2), os.far hg (ne os.2.2), hap, hi⟩

theorem OwnU.keep {w w' : World} {base : Nat} {v : Value} {s : St} {r : Option Nat} (h : OwnU w base v s) (hg : w.grownBy w' r) (hr : ∀ k, r = some k → k < base) : OwnU w' base v s := by
  obtain ⟨vf, vn, vs, m, e, hm, of, on, os, hap, hi⟩ := h
  have ne : ∀ {e sz : Nat} {v : Value} {n : Nat} {xs : List Value}, w.ownsRow base e sz v n xs → v.ownBlock = none ∨ v.ownBlock ≠ r := by
    intro e sz v n xs ho
    cases hv : v.ownBlock with
    | none => exact .inl rfl
    | some g =>
      refine .inr fun q => ?_
      have := (ho.lt g hv).1
      have := hr g q.symm
      omega
  exact ⟨vf, vn, vs, m, e, hm, of.far hg (ne of.1.2) (fun y hy => ne (of.2.1 y hy).1), on.far hg (ne on.2.2), os.far hg (ne os.2.2), hap, hi⟩
end Go.Proofs.Ytoceddpjkodfkaa

/- The walk of the law FilesOwn. -/
namespace Go.Proofs.Ytoceddpjkodfkaa
open Go.RowKit
set_option linter.unusedVariables false
set_option linter.unusedSimpArgs false

set_option maxHeartbeats 8000000 in
set_option maxRecDepth 8000 in
theorem own_walk (s : St) (a : Ac) (v va : Value) (w : World) (hv : StW w v s) (ha : AcW w va a)
    (h1 : s.files.length * 40 ≤ 140737488351232) (h2 : s.names.length * 24 ≤ 140737488351232) (h3 : s.safe.length * 24 ≤ 140737488351232) :
    Calls Try.prog 8 #[v, va] w fun e w' => e = .returned (.bool true) ∧ Below w.heap.size w w' := by
  obtain ⟨a0f, c0f, a0n, c0n, a0s, c0s, rfl⟩ := hv.form
  obtain ⟨vd, rfl, hd, hok⟩ := ha
  obtain ⟨ad, cd, evd, _⟩ := hd.slice
  subst evd
  have HV : Hid (StW w (.agg #[.int .i64 s.cap, .slice a0f s.files.length c0f, .slice a0n s.names.length c0n, .slice a0s s.safe.length c0s, .int .i64 s.next]) s) := hv
  have HD : Hid (Octs w (.slice ad a.data.length cd) a.data ∧ okAc a) := ⟨hd, hok⟩
  have H1 : Hid (s.files.length * 40 ≤ 140737488351232 ∧ s.names.length * 24 ≤ 140737488351232 ∧ s.safe.length * 24 ≤ 140737488351232) := ⟨h1, h2, h3⟩
  have H2 : Hid (s.names.length + s.safe.length ≤ 9223372036854775807) := by unfold Hid; omega
  clear hv h1 h2 h3 hd hok
  obtain ⟨N, hN⟩ : ∃ N, N = w.heap.size := ⟨_, rfl⟩
  obtain ⟨w0, hw0⟩ : ∃ w0, w0 = (w.alloc (.cells #[.int .i64 s.cap, .slice a0f s.files.length c0f, .slice a0n s.names.length c0n, .slice a0s s.safe.length c0s, .int .i64 s.next] 25)).alloc (.cells #[.int .i64 a.what, .string (strOfNums a.name), .string (strOfNums a.dest), .slice ad a.data.length cd] 28) := ⟨_, rfl⟩
  have HW0 : Hid ((w.alloc (.cells #[.int .i64 s.cap, .slice a0f s.files.length c0f, .slice a0n s.names.length c0n, .slice a0s s.safe.length c0s, .int .i64 s.next] 25)).alloc (.cells #[.int .i64 a.what, .string (strOfNums a.name), .string (strOfNums a.dest), .slice ad a.data.length cd] 28) = w0) := hw0.symm
  have HNe : Hid (N = w.heap.size ∧ w0.heap.size = N + 2) := by rw [hw0, hN]; exact ⟨rfl, by simp⟩
  have Uw0 : Hid (Below w.heap.size w (w0)) := by rw [hw0]; exact up_al (up_al (Below.refl _ _) _) _
  have BS0 : (w0).heap[N]? = some (.cells #[.int .i64 s.cap, .slice a0f s.files.length c0f, .slice a0n s.names.length c0n, .slice a0s s.safe.length c0s, .int .i64 s.next] 25) := by rw [hw0, hN]; exact blk_two0 w _ _
  have BA0 : (w0).heap[N + 1]? = some (.cells #[.int .i64 a.what, .string (strOfNums a.name), .string (strOfNums a.dest), .slice ad a.data.length cd] 28) := by rw [hw0, hN]; exact blk_two1 w _ _
  clear hw0
  go_enter Try.func8, Try.ntmps8
  go_wp2_with fail
  rw [HW0.out, ← hN]
  clear HW0 hN
  refine (alive_any w0).mono ?_
  rintro e wA ⟨rfl, u⟩
  have HNe2 : Hid (N = w.heap.size ∧ N + 2 ≤ wA.heap.size) := by
    have h1 := HNe.out
    have h2 := u.size
    unfold Hid
    omega
  have Uw1 : Hid (Below w.heap.size w (wA)) := up_trans Uw0.out (u)
  have BS1 := blk_up BS0 (u)
  have BA1 := blk_up BA0 (u)
  clear Uw0 BS0 BA0
  clear u HNe
  have HNe := HNe2
  clear HNe2
  have S0 := blk_cell BS1 0 _ rfl
  have S1 := blk_cell BS1 1 _ rfl
  have S2 := blk_cell BS1 2 _ rfl
  have S3 := blk_cell BS1 3 _ rfl
  have S4 := blk_cell BS1 4 _ rfl
  go_wp2_with fail
  clear S0 S1 S2 S3 S4
  refine (of_any s _ wA (HV.out.up Uw1.out) H1.out.1 H1.out.2.1 H1.out.2.2).mono ?_
  rintro e w1 ⟨v1, rfl, ov, u⟩
  obtain ⟨a1f, c1f, a1n, c1n, a1s, c1s, rfl⟩ := (StW.own ov).form
  have OX : Hid (OwnV w1 wA.heap.size (.agg #[.int .i64 s.cap, .slice a1f s.files.length c1f, .slice a1n s.names.length c1n, .slice a1s s.safe.length c1s, .int .i64 s.next]) s) := ov
  have hs01 := u.size
  have Uw2 : Hid (Below w.heap.size w (w1)) := up_trans Uw1.out (u)
  have BS2 := blk_up BS1 (u)
  have BA2 := blk_up BA1 (u)
  clear Uw1 BS1 BA1
  clear ov u
  have Uw3 : Hid (Below w.heap.size w (w1.alloc (.cells #[.int .i64 s.cap, .slice a1f s.files.length c1f, .slice a1n s.names.length c1n, .slice a1s s.safe.length c1s, .int .i64 s.next] 33))) := up_trans Uw2.out (up_alloc w1 (.cells #[.int .i64 s.cap, .slice a1f s.files.length c1f, .slice a1n s.names.length c1n, .slice a1s s.safe.length c1s, .int .i64 s.next] 33))
  have BS3 := blk_up BS2 (up_alloc w1 (.cells #[.int .i64 s.cap, .slice a1f s.files.length c1f, .slice a1n s.names.length c1n, .slice a1s s.safe.length c1s, .int .i64 s.next] 33))
  have BA3 := blk_up BA2 (up_alloc w1 (.cells #[.int .i64 s.cap, .slice a1f s.files.length c1f, .slice a1n s.names.length c1n, .slice a1s s.safe.length c1s, .int .i64 s.next] 33))
  clear Uw2 BS2 BA2
  have Ux3 : Hid (Below w1.heap.size w1 (w1.alloc (.cells #[.int .i64 s.cap, .slice a1f s.files.length c1f, .slice a1n s.names.length c1n, .slice a1s s.safe.length c1s, .int .i64 s.next] 33))) := up_alloc _ _
  have BX3 : (w1.alloc (.cells #[.int .i64 s.cap, .slice a1f s.files.length c1f, .slice a1n s.names.length c1n, .slice a1s s.safe.length c1s, .int .i64 s.next] 33)).heap[w1.heap.size]? = some (.cells #[.int .i64 s.cap, .slice a1f s.files.length c1f, .slice a1n s.names.length c1n, .slice a1s s.safe.length c1s, .int .i64 s.next] 33) := blk_new _ _
  have A0 := blk_cell BA3 0 _ rfl
  have A1 := blk_cell BA3 1 _ rfl
  have A2 := blk_cell BA3 2 _ rfl
  have A3 := blk_cell BA3 3 _ rfl
  have Uw4 : Hid (Below w.heap.size w ((w1.alloc (.cells #[.int .i64 s.cap, .slice a1f s.files.length c1f, .slice a1n s.names.length c1n, .slice a1s s.safe.length c1s, .int .i64 s.next] 33)).alloc (.cells #[.int .i64 a.what, .string (strOfNums a.name), .string (strOfNums a.dest), .slice ad a.data.length cd] 28))) := up_trans Uw3.out (up_alloc (w1.alloc (.cells #[.int .i64 s.cap, .slice a1f s.files.length c1f, .slice a1n s.names.length c1n, .slice a1s s.safe.length c1s, .int .i64 s.next] 33)) (.cells #[.int .i64 a.what, .string (strOfNums a.name), .string (strOfNums a.dest), .slice ad a.data.length cd] 28))
  have Ux4 : Hid (Below w1.heap.size w1 ((w1.alloc (.cells #[.int .i64 s.cap, .slice a1f s.files.length c1f, .slice a1n s.names.length c1n, .slice a1s s.safe.length c1s, .int .i64 s.next] 33)).alloc (.cells #[.int .i64 a.what, .string (strOfNums a.name), .string (strOfNums a.dest), .slice ad a.data.length cd] 28))) := up_trans Ux3.out (up_alloc (w1.alloc (.cells #[.int .i64 s.cap, .slice a1f s.files.length c1f, .slice a1n s.names.length c1n, .slice a1s s.safe.length c1s, .int .i64 s.next] 33)) (.cells #[.int .i64 a.what, .string (strOfNums a.name), .string (strOfNums a.dest), .slice ad a.data.length cd] 28))
  have BS4 := blk_up BS3 (up_alloc (w1.alloc (.cells #[.int .i64 s.cap, .slice a1f s.files.length c1f, .slice a1n s.names.length c1n, .slice a1s s.safe.length c1s, .int .i64 s.next] 33)) (.cells #[.int .i64 a.what, .string (strOfNums a.name), .string (strOfNums a.dest), .slice ad a.data.length cd] 28))
  have BA4 := blk_up BA3 (up_alloc (w1.alloc (.cells #[.int .i64 s.cap, .slice a1f s.files.length c1f, .slice a1n s.names.length c1n, .slice a1s s.safe.length c1s, .int .i64 s.next] 33)) (.cells #[.int .i64 a.what, .string (strOfNums a.name), .string (strOfNums a.dest), .slice ad a.data.length cd] 28))
  have BX4 := blk_up BX3 (up_alloc (w1.alloc (.cells #[.int .i64 s.cap, .slice a1f s.files.length c1f, .slice a1n s.names.length c1n, .slice a1s s.safe.length c1s, .int .i64 s.next] 33)) (.cells #[.int .i64 a.what, .string (strOfNums a.name), .string (strOfNums a.dest), .slice ad a.data.length cd] 28))
  clear Uw3 Ux3 BS3 BA3 BX3
  have BO4 : ((w1.alloc (.cells #[.int .i64 s.cap, .slice a1f s.files.length c1f, .slice a1n s.names.length c1n, .slice a1s s.safe.length c1s, .int .i64 s.next] 33)).alloc (.cells #[.int .i64 a.what, .string (strOfNums a.name), .string (strOfNums a.dest), .slice ad a.data.length cd] 28)).heap[w1.heap.size + 1]? = some (.cells #[.int .i64 a.what, .string (strOfNums a.name), .string (strOfNums a.dest), .slice ad a.data.length cd] 28) := by have := blk_new (w1.alloc (.cells #[.int .i64 s.cap, .slice a1f s.files.length c1f, .slice a1n s.names.length c1n, .slice a1s s.safe.length c1s, .int .i64 s.next] 33)) (.cells #[.int .i64 a.what, .string (strOfNums a.name), .string (strOfNums a.dest), .slice ad a.data.length cd] 28); simpa using this
  have A3' := blk_cell BA4 3 _ rfl
  go_wp2_with fail
  generalize (w1.alloc (.cells #[.int .i64 s.cap, .slice a1f s.files.length c1f, .slice a1n s.names.length c1n, .slice a1s s.safe.length c1s, .int .i64 s.next] 33)).alloc (.cells #[.int .i64 a.what, .string (strOfNums a.name), .string (strOfNums a.dest), .slice ad a.data.length cd] 28) = w2 at *
  clear A3' A0 A1 A2 A3
  refine (copyB_any a.data _ w2 (HD.out.1.up Uw4.out) HD.out.2.2.2.2.2.2).mono ?_
  rintro e w3 ⟨v3, rfl, ob, u⟩
  obtain ⟨a3, c3, e3, _⟩ := (Octs.own ob HD.out.1.1).slice
  subst e3
  have hs12a : w1.heap.size ≤ w2.heap.size := Ux4.out.size
  have hs23a := u.size
  have Uw5 : Hid (Below w.heap.size w (w3)) := up_trans Uw4.out (u)
  have Ux5 : Hid (Below w1.heap.size w1 (w3)) := up_trans Ux4.out (u)
  have BS5 := blk_up BS4 (u)
  have BA5 := blk_up BA4 (u)
  have BX5 := blk_up BX4 (u)
  have BO5 := blk_up BO4 (u)
  clear Uw4 Ux4 BS4 BA4 BX4 BO4
  have hs12 := (Ux5.out).size
  have hOlt := blk_lt BO5
  have obq := ob.far (grown_set w3 ⟨w1.heap.size + 1, 3, none⟩ (.slice a3 a.data.length c3)) (own_blk_ne ob BO5 (by decide))
  have HOb : Hid (OwnB (w3.setCell ⟨w1.heap.size + 1, 3, none⟩ (.slice a3 a.data.length c3)) w2.heap.size (.slice a3 a.data.length c3) a.data) := obq
  have hs24a : w2.heap.size ≤ (w3.setCell ⟨w1.heap.size + 1, 3, none⟩ (.slice a3 a.data.length c3)).heap.size := Nat.le_trans hs23a (grown_set w3 ⟨w1.heap.size + 1, 3, none⟩ (.slice a3 a.data.length c3)).size
  have y3 := blk_cell BO5 3 _ rfl
  have yf := blk_frozen BO5 3
  have y0 := blk_cell BO5 0 _ rfl
  have y1 := blk_cell BO5 1 _ rfl
  have y2 := blk_cell BO5 2 _ rfl
  have UwE : Hid (Below w.heap.size w (w3.setCell ⟨w1.heap.size + 1, 3, none⟩ (.slice a3 a.data.length c3))) := up_set Uw5.out _ (by have := Uw5.out.size; have := HNe.out; show w.heap.size ≤ w1.heap.size + 1; omega) _
  have UxE : Hid (Below w1.heap.size w1 (w3.setCell ⟨w1.heap.size + 1, 3, none⟩ (.slice a3 a.data.length c3))) := up_set Ux5.out _ (by show w1.heap.size ≤ w1.heap.size + 1; omega) _
  have BSE := blk_other BS5 (a := ⟨w1.heap.size + 1, 3, none⟩) (by show N ≠ w1.heap.size + 1; have := HNe.out; omega) (.slice a3 a.data.length c3)
  have BAE := blk_other BA5 (a := ⟨w1.heap.size + 1, 3, none⟩) (by show N + 1 ≠ w1.heap.size + 1; have := HNe.out; omega) (.slice a3 a.data.length c3)
  have BXE := blk_other BX5 (a := ⟨w1.heap.size + 1, 3, none⟩) (by show w1.heap.size ≠ w1.heap.size + 1; omega) (.slice a3 a.data.length c3)
  have BOE : (w3.setCell ⟨w1.heap.size + 1, 3, none⟩ (.slice a3 a.data.length c3)).heap[w1.heap.size + 1]? = some (.cells #[.int .i64 a.what, .string (strOfNums a.name), .string (strOfNums a.dest), .slice a3 a.data.length c3] 28) := blk_set BO5 3 (.slice a3 a.data.length c3)
  clear Uw5 Ux5 BS5 BA5 BX5 BO5 ob u obq
  have X0 := blk_cell BXE 0 _ rfl
  have X1 := blk_cell BXE 1 _ rfl
  have X2 := blk_cell BXE 2 _ rfl
  have X3 := blk_cell BXE 3 _ rfl
  have X4 := blk_cell BXE 4 _ rfl
  have O0 := blk_cell BOE 0 _ rfl
  have O1 := blk_cell BOE 1 _ rfl
  have O2 := blk_cell BOE 2 _ rfl
  have O3 := blk_cell BOE 3 _ rfl
  go_wp2_with fail
  generalize w3.setCell ⟨w1.heap.size + 1, 3, none⟩ (.slice a3 a.data.length c3) = w4 at *
  clear X0 X1 X2 X3 X4 O0 O1 O2 O3 y0 y1 y2 y3 yf
  have Uw6 := UwE
  have Ux6 := UxE
  have BS6 := BSE
  have BA6 := BAE
  have BX6 := BXE
  have BO6 := BOE
  clear UwE UxE BSE BAE BXE BOE
  have HAo : Hid (AcW w4 (.agg #[.int .i64 a.what, .string (strOfNums a.name), .string (strOfNums a.dest), .slice a3 a.data.length c3]) a) := ⟨_, rfl, Octs.own HOb.out HD.out.1.1, HD.out.2⟩
  have HOb4 : Hid (OwnB w4 w2.heap.size (.slice a3 a.data.length c3) a.data) := HOb
  clear HOb
  refine (do_any s a _ _ w4 ((StW.own OX.out).up Ux6.out) HAo.out H2.out).mono ?_
  rintro e w5 ⟨v5, rfl, ov, u⟩
  obtain ⟨D, hD⟩ : ∃ D, D = doP s a := ⟨_, rfl⟩
  have HDo : Hid (D = doP s a) := hD
  rw [← hD] at ov ⊢
  clear hD
  obtain ⟨d, de⟩ := D
  simp only at ov
  obtain ⟨a5f, c5f, a5n, c5n, a5s, c5s, rfl⟩ := (StW.own ov).form
  have OP : Hid (OwnV w5 w4.heap.size (.agg #[.int .i64 d.cap, .slice a5f d.files.length c5f, .slice a5n d.names.length c5n, .slice a5s d.safe.length c5s, .int .i64 d.next]) d) := ov
  have Uo6 : Hid (Below w4.heap.size w4 (w4)) := Below.refl _ _
  have Uw7 : Hid (Below w.heap.size w (w5)) := up_trans Uw6.out (u)
  have Ux7 : Hid (Below w1.heap.size w1 (w5)) := up_trans Ux6.out (u)
  have Uo7 : Hid (Below w4.heap.size w4 (w5)) := up_trans Uo6.out (u)
  have BS7 := blk_up BS6 (u)
  have BA7 := blk_up BA6 (u)
  have BX7 := blk_up BX6 (u)
  have BO7 := blk_up BO6 (u)
  clear Uw6 Ux6 Uo6 BS6 BA6 BX6 BO6
  clear ov u
  have Uw8 : Hid (Below w.heap.size w (w5.alloc (.cells #[.int .i64 d.cap, .slice a5f d.files.length c5f, .slice a5n d.names.length c5n, .slice a5s d.safe.length c5s, .int .i64 d.next] 33))) := up_trans Uw7.out (up_alloc w5 (.cells #[.int .i64 d.cap, .slice a5f d.files.length c5f, .slice a5n d.names.length c5n, .slice a5s d.safe.length c5s, .int .i64 d.next] 33))
  have Ux8 : Hid (Below w1.heap.size w1 (w5.alloc (.cells #[.int .i64 d.cap, .slice a5f d.files.length c5f, .slice a5n d.names.length c5n, .slice a5s d.safe.length c5s, .int .i64 d.next] 33))) := up_trans Ux7.out (up_alloc w5 (.cells #[.int .i64 d.cap, .slice a5f d.files.length c5f, .slice a5n d.names.length c5n, .slice a5s d.safe.length c5s, .int .i64 d.next] 33))
  have Uo8 : Hid (Below w4.heap.size w4 (w5.alloc (.cells #[.int .i64 d.cap, .slice a5f d.files.length c5f, .slice a5n d.names.length c5n, .slice a5s d.safe.length c5s, .int .i64 d.next] 33))) := up_trans Uo7.out (up_alloc w5 (.cells #[.int .i64 d.cap, .slice a5f d.files.length c5f, .slice a5n d.names.length c5n, .slice a5s d.safe.length c5s, .int .i64 d.next] 33))
  have BS8 := blk_up BS7 (up_alloc w5 (.cells #[.int .i64 d.cap, .slice a5f d.files.length c5f, .slice a5n d.names.length c5n, .slice a5s d.safe.length c5s, .int .i64 d.next] 33))
  have BA8 := blk_up BA7 (up_alloc w5 (.cells #[.int .i64 d.cap, .slice a5f d.files.length c5f, .slice a5n d.names.length c5n, .slice a5s d.safe.length c5s, .int .i64 d.next] 33))
  have BX8 := blk_up BX7 (up_alloc w5 (.cells #[.int .i64 d.cap, .slice a5f d.files.length c5f, .slice a5n d.names.length c5n, .slice a5s d.safe.length c5s, .int .i64 d.next] 33))
  have BO8 := blk_up BO7 (up_alloc w5 (.cells #[.int .i64 d.cap, .slice a5f d.files.length c5f, .slice a5n d.names.length c5n, .slice a5s d.safe.length c5s, .int .i64 d.next] 33))
  clear Uw7 Ux7 Uo7 BS7 BA7 BX7 BO7
  have Up8 : Hid (Below w5.heap.size w5 (w5.alloc (.cells #[.int .i64 d.cap, .slice a5f d.files.length c5f, .slice a5n d.names.length c5n, .slice a5s d.safe.length c5s, .int .i64 d.next] 33))) := up_alloc _ _
  have BP8 : (w5.alloc (.cells #[.int .i64 d.cap, .slice a5f d.files.length c5f, .slice a5n d.names.length c5n, .slice a5s d.safe.length c5s, .int .i64 d.next] 33)).heap[w5.heap.size]? = some (.cells #[.int .i64 d.cap, .slice a5f d.files.length c5f, .slice a5n d.names.length c5n, .slice a5s d.safe.length c5s, .int .i64 d.next] 33) := blk_new _ _
  have S0 := blk_cell BS8 0 _ rfl
  have S1 := blk_cell BS8 1 _ rfl
  have S2 := blk_cell BS8 2 _ rfl
  have S3 := blk_cell BS8 3 _ rfl
  have S4 := blk_cell BS8 4 _ rfl
  have A0 := blk_cell BA8 0 _ rfl
  have A1 := blk_cell BA8 1 _ rfl
  have A2 := blk_cell BA8 2 _ rfl
  have A3 := blk_cell BA8 3 _ rfl
  go_wp2_with fail
  generalize w5.alloc (.cells #[.int .i64 d.cap, .slice a5f d.files.length c5f, .slice a5n d.names.length c5n, .slice a5s d.safe.length c5s, .int .i64 d.next] 33) = w6 at *
  clear S0 S1 S2 S3 S4 A0 A1 A2 A3
  have hs46a : w4.heap.size ≤ w6.heap.size := Uo8.out.size
  refine (refDo_any s a _ _ w6 (HV.out.up Uw8.out) ⟨_, rfl, HD.out.1.up Uw8.out, HD.out.2⟩).mono ?_
  rintro e w7 ⟨v7, rfl, ov, u⟩
  rw [← HDo.out] at ov ⊢
  simp only at ov ⊢
  obtain ⟨a7f, c7f, a7n, c7n, a7s, c7s, rfl⟩ := (StW.ownU ov).form
  have OQ : Hid (OwnU w7 w6.heap.size (.agg #[.int .i64 d.cap, .slice a7f d.files.length c7f, .slice a7n d.names.length c7n, .slice a7s d.safe.length c7s, .int .i64 d.next]) d) := ov
  have Uw9 : Hid (Below w.heap.size w (w7)) := up_trans Uw8.out (u)
  have Ux9 : Hid (Below w1.heap.size w1 (w7)) := up_trans Ux8.out (u)
  have Uo9 : Hid (Below w4.heap.size w4 (w7)) := up_trans Uo8.out (u)
  have Up9 : Hid (Below w5.heap.size w5 (w7)) := up_trans Up8.out (u)
  have BS9 := blk_up BS8 (u)
  have BA9 := blk_up BA8 (u)
  have BX9 := blk_up BX8 (u)
  have BO9 := blk_up BO8 (u)
  have BP9 := blk_up BP8 (u)
  clear Uw8 Ux8 Uo8 Up8 BS8 BA8 BX8 BO8 BP8
  clear ov u
  have Uw10 : Hid (Below w.heap.size w (w7.alloc (.cells #[.int .i64 d.cap, .slice a7f d.files.length c7f, .slice a7n d.names.length c7n, .slice a7s d.safe.length c7s, .int .i64 d.next] 25))) := up_trans Uw9.out (up_alloc w7 (.cells #[.int .i64 d.cap, .slice a7f d.files.length c7f, .slice a7n d.names.length c7n, .slice a7s d.safe.length c7s, .int .i64 d.next] 25))
  have Ux10 : Hid (Below w1.heap.size w1 (w7.alloc (.cells #[.int .i64 d.cap, .slice a7f d.files.length c7f, .slice a7n d.names.length c7n, .slice a7s d.safe.length c7s, .int .i64 d.next] 25))) := up_trans Ux9.out (up_alloc w7 (.cells #[.int .i64 d.cap, .slice a7f d.files.length c7f, .slice a7n d.names.length c7n, .slice a7s d.safe.length c7s, .int .i64 d.next] 25))
  have Uo10 : Hid (Below w4.heap.size w4 (w7.alloc (.cells #[.int .i64 d.cap, .slice a7f d.files.length c7f, .slice a7n d.names.length c7n, .slice a7s d.safe.length c7s, .int .i64 d.next] 25))) := up_trans Uo9.out (up_alloc w7 (.cells #[.int .i64 d.cap, .slice a7f d.files.length c7f, .slice a7n d.names.length c7n, .slice a7s d.safe.length c7s, .int .i64 d.next] 25))
  have Up10 : Hid (Below w5.heap.size w5 (w7.alloc (.cells #[.int .i64 d.cap, .slice a7f d.files.length c7f, .slice a7n d.names.length c7n, .slice a7s d.safe.length c7s, .int .i64 d.next] 25))) := up_trans Up9.out (up_alloc w7 (.cells #[.int .i64 d.cap, .slice a7f d.files.length c7f, .slice a7n d.names.length c7n, .slice a7s d.safe.length c7s, .int .i64 d.next] 25))
  have BS10 := blk_up BS9 (up_alloc w7 (.cells #[.int .i64 d.cap, .slice a7f d.files.length c7f, .slice a7n d.names.length c7n, .slice a7s d.safe.length c7s, .int .i64 d.next] 25))
  have BA10 := blk_up BA9 (up_alloc w7 (.cells #[.int .i64 d.cap, .slice a7f d.files.length c7f, .slice a7n d.names.length c7n, .slice a7s d.safe.length c7s, .int .i64 d.next] 25))
  have BX10 := blk_up BX9 (up_alloc w7 (.cells #[.int .i64 d.cap, .slice a7f d.files.length c7f, .slice a7n d.names.length c7n, .slice a7s d.safe.length c7s, .int .i64 d.next] 25))
  have BO10 := blk_up BO9 (up_alloc w7 (.cells #[.int .i64 d.cap, .slice a7f d.files.length c7f, .slice a7n d.names.length c7n, .slice a7s d.safe.length c7s, .int .i64 d.next] 25))
  have BP10 := blk_up BP9 (up_alloc w7 (.cells #[.int .i64 d.cap, .slice a7f d.files.length c7f, .slice a7n d.names.length c7n, .slice a7s d.safe.length c7s, .int .i64 d.next] 25))
  clear Uw9 Ux9 Uo9 Up9 BS9 BA9 BX9 BO9 BP9
  have Uq10 : Hid (Below w7.heap.size w7 (w7.alloc (.cells #[.int .i64 d.cap, .slice a7f d.files.length c7f, .slice a7n d.names.length c7n, .slice a7s d.safe.length c7s, .int .i64 d.next] 25))) := up_alloc _ _
  have BQ10 : (w7.alloc (.cells #[.int .i64 d.cap, .slice a7f d.files.length c7f, .slice a7n d.names.length c7n, .slice a7s d.safe.length c7s, .int .i64 d.next] 25)).heap[w7.heap.size]? = some (.cells #[.int .i64 d.cap, .slice a7f d.files.length c7f, .slice a7n d.names.length c7n, .slice a7s d.safe.length c7s, .int .i64 d.next] 25) := blk_new _ _
  have O0 := blk_cell BO10 0 _ rfl
  have O1 := blk_cell BO10 1 _ rfl
  have O2 := blk_cell BO10 2 _ rfl
  have O3 := blk_cell BO10 3 _ rfl
  go_wp2_with fail
  generalize w7.alloc (.cells #[.int .i64 d.cap, .slice a7f d.files.length c7f, .slice a7n d.names.length c7n, .slice a7s d.safe.length c7s, .int .i64 d.next] 25) = w8 at *
  clear O0 O1 O2 O3
  have h04 : w1.heap.size ≤ w2.heap.size := hs12a
  have h24 : w2.heap.size ≤ w4.heap.size := hs24a
  have h46 : w4.heap.size ≤ w6.heap.size := hs46a
  have h0A : w.heap.size ≤ wA.heap.size := by have := HNe.out; omega
  have KP8 : Hid (OwnV w8 w4.heap.size (.agg #[.int .i64 d.cap, .slice a5f d.files.length c5f, .slice a5n d.names.length c5n, .slice a5s d.safe.length c5s, .int .i64 d.next]) d ∧ OwnU w8 w6.heap.size (.agg #[.int .i64 d.cap, .slice a7f d.files.length c7f, .slice a7n d.names.length c7n, .slice a7s d.safe.length c7s, .int .i64 d.next]) d ∧ (w8).heap[w1.heap.size]? = some (.cells #[.int .i64 s.cap, .slice a1f s.files.length c1f, .slice a1n s.names.length c1n, .slice a1s s.safe.length c1s, .int .i64 s.next] 33) ∧ (w8).heap[w5.heap.size]? = some (.cells #[.int .i64 d.cap, .slice a5f d.files.length c5f, .slice a5n d.names.length c5n, .slice a5s d.safe.length c5s, .int .i64 d.next] 33) ∧ (w8).heap[w7.heap.size]? = some (.cells #[.int .i64 d.cap, .slice a7f d.files.length c7f, .slice a7n d.names.length c7n, .slice a7s d.safe.length c7s, .int .i64 d.next] 25) ∧ Below w.heap.size w (w8)) := ⟨OP.out.up Up10.out, OQ.out.up Uq10.out, BX10, BP10, BQ10, Uw10.out⟩
  have HKP : Hid (∀ (W W' : World) (bb e sz n : Nat) (v : Value) (xs : List Value), (OwnV W w4.heap.size (.agg #[.int .i64 d.cap, .slice a5f d.files.length c5f, .slice a5n d.names.length c5n, .slice a5s d.safe.length c5s, .int .i64 d.next]) d ∧ OwnU W w6.heap.size (.agg #[.int .i64 d.cap, .slice a7f d.files.length c7f, .slice a7n d.names.length c7n, .slice a7s d.safe.length c7s, .int .i64 d.next]) d ∧ (W).heap[w1.heap.size]? = some (.cells #[.int .i64 s.cap, .slice a1f s.files.length c1f, .slice a1n s.names.length c1n, .slice a1s s.safe.length c1s, .int .i64 s.next] 33) ∧ (W).heap[w5.heap.size]? = some (.cells #[.int .i64 d.cap, .slice a5f d.files.length c5f, .slice a5n d.names.length c5n, .slice a5s d.safe.length c5s, .int .i64 d.next] 33) ∧ (W).heap[w7.heap.size]? = some (.cells #[.int .i64 d.cap, .slice a7f d.files.length c7f, .slice a7n d.names.length c7n, .slice a7s d.safe.length c7s, .int .i64 d.next] 25) ∧ Below w.heap.size w (W)) → W.ownsRow bb e sz v n xs → w.heap.size ≤ bb → (∀ b, v.ownBlock = some b → b < w4.heap.size) → e ≠ 33 → e ≠ 25 → W.grownBy W' v.ownBlock → (OwnV W' w4.heap.size (.agg #[.int .i64 d.cap, .slice a5f d.files.length c5f, .slice a5n d.names.length c5n, .slice a5s d.safe.length c5s, .int .i64 d.next]) d ∧ OwnU W' w6.heap.size (.agg #[.int .i64 d.cap, .slice a7f d.files.length c7f, .slice a7n d.names.length c7n, .slice a7s d.safe.length c7s, .int .i64 d.next]) d ∧ (W').heap[w1.heap.size]? = some (.cells #[.int .i64 s.cap, .slice a1f s.files.length c1f, .slice a1n s.names.length c1n, .slice a1s s.safe.length c1s, .int .i64 s.next] 33) ∧ (W').heap[w5.heap.size]? = some (.cells #[.int .i64 d.cap, .slice a5f d.files.length c5f, .slice a5n d.names.length c5n, .slice a5s d.safe.length c5s, .int .i64 d.next] 33) ∧ (W').heap[w7.heap.size]? = some (.cells #[.int .i64 d.cap, .slice a7f d.files.length c7f, .slice a7n d.names.length c7n, .slice a7s d.safe.length c7s, .int .i64 d.next] 25) ∧ Below w.heap.size w (W'))) := by
    intro W W' bb e sz n v xs h ho hbb hlt h33 h25 hg
    have ne : ∀ B t cs, W.heap[B]? = some (.cells cs t) → e ≠ t → some B ≠ v.ownBlock := by
      intro B t cs hB het q
      rcases own_blk_ne ho hB het with r | r
      · rw [r] at q; cases q
      · exact r q.symm
    exact ⟨h.1.keep hg (fun k hk => hlt k hk), h.2.1.keep hg (fun k hk => Nat.lt_of_lt_of_le (hlt k hk) h46), blk_grown h.2.2.1 hg (ne _ _ _ h.2.2.1 h33), blk_grown h.2.2.2.1 hg (ne _ _ _ h.2.2.2.1 h33), blk_grown h.2.2.2.2.1 hg (ne _ _ _ h.2.2.2.2.1 h25), h.2.2.2.2.2.grown hg h.2.2.2.2.2.size (fun k hk => Nat.le_trans hbb (ho.lt k hk).1)⟩
  obtain ⟨vf, vn, vs, m, ex, hm, of1, on1, os1, hap, hi1, hi2⟩ := OX.out
  simp at ex
  obtain ⟨rfl, rfl, rfl⟩ := ex
  have LF : Hid (∀ b, (Value.slice a1f s.files.length c1f).ownBlock = some b → b < w1.heap.size) := fun b hb => (of1.1.2.lt b hb).2
  have LD : Hid (∀ y ∈ m, ∀ b, y.1.ownBlock = some b → b < w1.heap.size) := fun y hy b hb => ((of1.2.1 y hy).1.lt b hb).2
  have LN : Hid (∀ b, (Value.slice a1n s.names.length c1n).ownBlock = some b → b < w1.heap.size) := fun b hb => (on1.2.2.lt b hb).2
  have LS : Hid (∀ b, (Value.slice a1s s.safe.length c1s).ownBlock = some b → b < w1.heap.size) := fun b hb => (os1.2.2.lt b hb).2
  have HAp : Hid (Apart (.slice a1n s.names.length c1n) (.slice a1s s.safe.length c1s)) := hap
  have HML : Hid (m.length = s.files.length) := by
    have := congrArg List.length hm
    simpa [Hid] using this
  have F8 : Hid (OwnF w8 wA.heap.size (.slice a1f s.files.length c1f) m ∧ OwnN w8 wA.heap.size 73 (.slice a1n s.names.length c1n) s.names ∧ OwnN w8 wA.heap.size 73 (.slice a1s s.safe.length c1s) s.safe) := ⟨of1.up Ux10.out, on1.up Ux10.out, os1.up Ux10.out⟩
  have D8 : Hid (OwnB w8 w2.heap.size (.slice a3 a.data.length c3) a.data) := HOb4.out.up Uo10.out
  have LO : Hid (∀ b, (Value.slice a3 a.data.length c3).ownBlock = some b → w2.heap.size ≤ b ∧ b < w4.heap.size) := fun b hb => HOb4.out.lt b hb
  have hmxf : s.files.length ≤ 140737488351232 := by have := H1.out; omega
  have hmxn : s.names.length ≤ 140737488351232 := by have := H1.out; omega
  have hmxs : s.safe.length ≤ 140737488351232 := by have := H1.out; omega
  clear of1 on1 os1 hap hi1 hi2 hm
  clear Uw10 Ux10 Uo10 Up10 Uq10 BS10 BA10 BX10 BO10 BP10 BQ10
  refine (spoil_any a.data _ w8 w2.heap.size D8.out HD.out.1.1).mono ?_
  rintro e w9 ⟨rfl, hg, _⟩
  have far9 : ∀ v : Value, (∀ b, v.ownBlock = some b → b < w1.heap.size) → v.ownBlock = none ∨ v.ownBlock ≠ (Value.slice a3 a.data.length c3).ownBlock := by
    intro v hv
    cases hb : v.ownBlock with
    | none => exact .inl rfl
    | some b =>
      refine .inr fun q => ?_
      have h1 := hv b hb
      have h2 := (LO.out b q.symm).1
      omega
  have KP9 : Hid (OwnV w9 w4.heap.size (.agg #[.int .i64 d.cap, .slice a5f d.files.length c5f, .slice a5n d.names.length c5n, .slice a5s d.safe.length c5s, .int .i64 d.next]) d ∧ OwnU w9 w6.heap.size (.agg #[.int .i64 d.cap, .slice a7f d.files.length c7f, .slice a7n d.names.length c7n, .slice a7s d.safe.length c7s, .int .i64 d.next]) d ∧ (w9).heap[w1.heap.size]? = some (.cells #[.int .i64 s.cap, .slice a1f s.files.length c1f, .slice a1n s.names.length c1n, .slice a1s s.safe.length c1s, .int .i64 s.next] 33) ∧ (w9).heap[w5.heap.size]? = some (.cells #[.int .i64 d.cap, .slice a5f d.files.length c5f, .slice a5n d.names.length c5n, .slice a5s d.safe.length c5s, .int .i64 d.next] 33) ∧ (w9).heap[w7.heap.size]? = some (.cells #[.int .i64 d.cap, .slice a7f d.files.length c7f, .slice a7n d.names.length c7n, .slice a7s d.safe.length c7s, .int .i64 d.next] 25) ∧ Below w.heap.size w (w9)) := HKP.out _ _ _ _ _ _ _ _ KP8.out D8.out (by have := HNe.out; omega) (fun b hb => (LO.out b hb).2) (by decide) (by decide) hg
  have F9 : Hid (OwnF w9 wA.heap.size (.slice a1f s.files.length c1f) m) := F8.out.1.far hg (far9 _ LF.out) (fun y hy => far9 _ (LD.out y hy))
  have N9 : Hid (OwnN w9 wA.heap.size 73 (.slice a1n s.names.length c1n) s.names ∧ OwnN w9 wA.heap.size 73 (.slice a1s s.safe.length c1s) s.safe) := ⟨F8.out.2.1.far hg (far9 _ LN.out), F8.out.2.2.far hg (far9 _ LS.out)⟩
  clear hg far9 KP8 F8 D8
  go_wp2_with fail
  go_loopw [11] (fun i wr => ∃ (k : Nat) (m' : List FRow), k ≤ s.files.length ∧ i = .int .i64 k ∧ Hid (m'.length = s.files.length ∧ ∀ j, j < m.length → (m'.getD j noF).1 = (m.getD j noF).1) ∧ Hid (OwnF wr wA.heap.size (.slice a1f s.files.length c1f) m') ∧ Hid (OwnN wr wA.heap.size 73 (.slice a1n s.names.length c1n) s.names ∧ OwnN wr wA.heap.size 73 (.slice a1s s.safe.length c1s) s.safe) ∧ Hid (OwnV wr w4.heap.size (.agg #[.int .i64 d.cap, .slice a5f d.files.length c5f, .slice a5n d.names.length c5n, .slice a5s d.safe.length c5s, .int .i64 d.next]) d ∧ OwnU wr w6.heap.size (.agg #[.int .i64 d.cap, .slice a7f d.files.length c7f, .slice a7n d.names.length c7n, .slice a7s d.safe.length c7s, .int .i64 d.next]) d ∧ (wr).heap[w1.heap.size]? = some (.cells #[.int .i64 s.cap, .slice a1f s.files.length c1f, .slice a1n s.names.length c1n, .slice a1s s.safe.length c1s, .int .i64 s.next] 33) ∧ (wr).heap[w5.heap.size]? = some (.cells #[.int .i64 d.cap, .slice a5f d.files.length c5f, .slice a5n d.names.length c5n, .slice a5s d.safe.length c5s, .int .i64 d.next] 33) ∧ (wr).heap[w7.heap.size]? = some (.cells #[.int .i64 d.cap, .slice a7f d.files.length c7f, .slice a7n d.names.length c7n, .slice a7s d.safe.length c7s, .int .i64 d.next] 25) ∧ Below w.heap.size w (wr))) (fun i _ => s.files.length - (intOf i).toNat)
  case atStart => exact ⟨0, m, Nat.zero_le _, rfl, ⟨HML.out, fun j hj => rfl⟩, F9, N9, KP9⟩
  case round =>
    obtain ⟨k, m', hk, rfl, HM', F, NN, KK⟩ := hrel
    have x1 := blk_cell KK.out.2.2.1 1 _ rfl
    by_cases hlt : k < s.files.length
    · have hlt' : (k : Int) < (s.files.length : Int) := by omega
      have him : k < m'.length := by rw [HM'.out.1]; exact hlt
      obtain ⟨g, rfl⟩ : ∃ g, a1f = some ⟨g, 0, none⟩ := by
        obtain ⟨_, h⟩ := F.out.1.2
        rcases h with ⟨e, h0⟩ | ⟨g, c2, cur, e, _⟩
        · rw [List.length_map, HM'.out.1] at h0
          omega
        · simp at e
          exact ⟨g, e.1⟩
      have hmem : m'.getD k noF ∈ m' := by simp [List.getD, him]
      have hrow := F.out.2.1 _ hmem
      obtain ⟨b, off, cap', e, _, _, hc⟩ := (Rws.own F.out.1).at k (by rw [List.length_map]; exact him)
      rw [List.length_map, HM'.out.1] at e
      simp at e
      obtain ⟨⟨rfl, rfl⟩, rfl⟩ := e
      have hr : (m'.map frow).getD k [] = frow (m'.getD k noF) := by simp [List.getD, him]
      rw [hr] at hc
      have k1 := hc 1 _ rfl
      simp only [Nat.zero_add] at k1
      have hy : (m'.getD k noF).1 = (m.getD k noF).1 := HM'.out.2 k (by have := HML.out; omega)
      have hym : m.getD k noF ∈ m := by have := HML.out; simp [List.getD, (show k < m.length by omega)]
      obtain ⟨au, cu, eu, _⟩ := (Octs.own hrow.1 hrow.2.1).slice
      obtain ⟨dl, hdl⟩ : ∃ dl, dl = (m'.getD k noF).2.2.1.length := ⟨_, rfl⟩
      rw [← hdl] at eu
      rw [eu] at k1
      have HEu : Hid ((m'.getD k noF).1 = .slice au dl cu) := eu
      have HSp : Hid (Calls Try.prog 29 #[.slice au dl cu] wr fun e w' => e = .returned (.tuple #[]) ∧ Hid (∃ m2 : List FRow, m2.length = s.files.length ∧ (∀ j, j < m.length → (m2.getD j noF).1 = (m.getD j noF).1) ∧ OwnF w' wA.heap.size (.slice (some ⟨g, 0, none⟩) s.files.length c1f) m2 ∧ OwnN w' wA.heap.size 73 (.slice a1n s.names.length c1n) s.names ∧ OwnN w' wA.heap.size 73 (.slice a1s s.safe.length c1s) s.safe ∧ (OwnV w' w4.heap.size (.agg #[.int .i64 d.cap, .slice a5f d.files.length c5f, .slice a5n d.names.length c5n, .slice a5s d.safe.length c5s, .int .i64 d.next]) d ∧ OwnU w' w6.heap.size (.agg #[.int .i64 d.cap, .slice a7f d.files.length c7f, .slice a7n d.names.length c7n, .slice a7s d.safe.length c7s, .int .i64 d.next]) d ∧ (w').heap[w1.heap.size]? = some (.cells #[.int .i64 s.cap, .slice (some ⟨g, 0, none⟩) s.files.length c1f, .slice a1n s.names.length c1n, .slice a1s s.safe.length c1s, .int .i64 s.next] 33) ∧ (w').heap[w5.heap.size]? = some (.cells #[.int .i64 d.cap, .slice a5f d.files.length c5f, .slice a5n d.names.length c5n, .slice a5s d.safe.length c5s, .int .i64 d.next] 33) ∧ (w').heap[w7.heap.size]? = some (.cells #[.int .i64 d.cap, .slice a7f d.files.length c7f, .slice a7n d.names.length c7n, .slice a7s d.safe.length c7s, .int .i64 d.next] 25) ∧ Below w.heap.size w (w')))) := by
        rw [← HEu.out]
        refine (spoil_any _ _ wr wA.heap.size hrow.1 hrow.2.1).mono ?_
        rintro e w' ⟨rfl, hg, l', ob, hl', ho'⟩
        refine ⟨rfl, _, ?_, ?_, F.out.spoiled him hg ob hl' ho', NN.out.1.far hg (own_own_ne NN.out.1.2.2 hrow.1 (by decide)), NN.out.2.far hg (own_own_ne NN.out.2.2.2 hrow.1 (by decide)), HKP.out _ _ _ _ _ _ _ _ KK.out hrow.1 h0A (fun b hb => by rw [hy] at hb; have := LD.out _ hym b hb; omega) (by decide) (by decide) hg⟩
        · rw [List.length_set, HM'.out.1]
        · intro j hj
          have hj' : j < m'.length := by rw [HM'.out.1, ← HML.out]; exact hj
          rw [← HM'.out.2 j hj]
          by_cases e : k = j
          · subst e
            simp [List.getD, hj']
          · simp [List.getD, hj', List.getElem_set, e]
      clear hc hr hrow hmem eu hy hdl
      go_wp2_with fail
      refine HSp.out.mono ?_
      rintro e w5' ⟨rfl, hq⟩
      obtain ⟨m2, hm2, hj2, F2, N2, S2, K2⟩ := hq.out
      have him2 : k < m2.length := by rw [hm2]; exact hlt
      have x2 := blk_cell K2.2.2.1 1 _ rfl
      obtain ⟨b, off, cap', e, _, _, hc⟩ := (Rws.own F2.1).at k (by rw [List.length_map]; exact him2)
      rw [List.length_map, hm2] at e
      simp at e
      obtain ⟨⟨rfl, rfl⟩, rfl⟩ := e
      have hr : (m2.map frow).getD k [] = frow (m2.getD k noF) := by simp [List.getD, him2]
      rw [hr] at hc
      have c0 := hc 0 _ rfl
      simp only [Nat.zero_add, Nat.add_zero] at c0
      have fz : w5'.frozen? ⟨g, k * 3, none⟩ = false := by
        obtain ⟨cur, hh, _⟩ := F2.1.blk
        exact blk_frozen hh _
      have hg5 := grown_set w5' ⟨g, k * 3, none⟩ (.int .i64 (-1))
      have F3 : Hid (OwnF (w5'.setCell ⟨g, k * 3, none⟩ (.int .i64 (-1))) wA.heap.size (.slice (some ⟨g, 0, none⟩) s.files.length c1f) (m2.set k ((m2.getD k noF).1, -1, (m2.getD k noF).2.2.1, (m2.getD k noF).2.2.2))) := F2.ided hm2 k hlt (-1) (by unfold In64; omega)
      have N3 : Hid (OwnN (w5'.setCell ⟨g, k * 3, none⟩ (.int .i64 (-1))) wA.heap.size 73 (.slice a1n s.names.length c1n) s.names ∧ OwnN (w5'.setCell ⟨g, k * 3, none⟩ (.int .i64 (-1))) wA.heap.size 73 (.slice a1s s.safe.length c1s) s.safe) := ⟨N2.far hg5 (own_own_ne N2.2.2 F2.1.2 (by decide)), S2.far hg5 (own_own_ne S2.2.2 F2.1.2 (by decide))⟩
      have K3 : Hid (OwnV (w5'.setCell ⟨g, k * 3, none⟩ (.int .i64 (-1))) w4.heap.size (.agg #[.int .i64 d.cap, .slice a5f d.files.length c5f, .slice a5n d.names.length c5n, .slice a5s d.safe.length c5s, .int .i64 d.next]) d ∧ OwnU (w5'.setCell ⟨g, k * 3, none⟩ (.int .i64 (-1))) w6.heap.size (.agg #[.int .i64 d.cap, .slice a7f d.files.length c7f, .slice a7n d.names.length c7n, .slice a7s d.safe.length c7s, .int .i64 d.next]) d ∧ ((w5'.setCell ⟨g, k * 3, none⟩ (.int .i64 (-1)))).heap[w1.heap.size]? = some (.cells #[.int .i64 s.cap, .slice (some ⟨g, 0, none⟩) s.files.length c1f, .slice a1n s.names.length c1n, .slice a1s s.safe.length c1s, .int .i64 s.next] 33) ∧ ((w5'.setCell ⟨g, k * 3, none⟩ (.int .i64 (-1)))).heap[w5.heap.size]? = some (.cells #[.int .i64 d.cap, .slice a5f d.files.length c5f, .slice a5n d.names.length c5n, .slice a5s d.safe.length c5s, .int .i64 d.next] 33) ∧ ((w5'.setCell ⟨g, k * 3, none⟩ (.int .i64 (-1)))).heap[w7.heap.size]? = some (.cells #[.int .i64 d.cap, .slice a7f d.files.length c7f, .slice a7n d.names.length c7n, .slice a7s d.safe.length c7s, .int .i64 d.next] 25) ∧ Below w.heap.size w ((w5'.setCell ⟨g, k * 3, none⟩ (.int .i64 (-1))))) := HKP.out _ _ _ _ _ _ _ _ K2 F2.1.2 h0A (fun q hq => by have := LF.out q hq; omega) (by decide) (by decide) hg5
      have M3 : Hid ((m2.set k ((m2.getD k noF).1, -1, (m2.getD k noF).2.2.1, (m2.getD k noF).2.2.2)).length = s.files.length ∧ ∀ j, j < m.length → ((m2.set k ((m2.getD k noF).1, -1, (m2.getD k noF).2.2.1, (m2.getD k noF).2.2.2)).getD j noF).1 = (m.getD j noF).1) := by
        refine ⟨by rw [List.length_set, hm2], ?_⟩
        intro j hj
        have hj' : j < m2.length := by rw [hm2, ← HML.out]; exact hj
        rw [← hj2 j hj]
        by_cases e : k = j
        · subst e
          simp [List.getD, hj']
        · simp [List.getD, hj', List.getElem_set, e]
      clear hq F2 N2 S2 K2 hc hr hg5 hm2 hj2 x1 k1 HSp F NN KK HM' HEu
      go_wp2_with fail
      exact ⟨⟨k + 1, _, by omega, by go_num, M3, F3, N3, K3⟩, by simp [intOf]; omega⟩
    · have hlt' : ¬ (k : Int) < (s.files.length : Int) := by omega
      have N9' : Hid (OwnN wr wA.heap.size 73 (.slice a1n s.names.length c1n) s.names ∧ OwnN wr wA.heap.size 73 (.slice a1s s.safe.length c1s) s.safe) := NN
      clear N9 KP9 F9 HM' F NN
      go_wp2_with fail
      clear x1
      go_loopw [12] (fun i wr => ∃ (k : Nat) (n' : List (List Int × Int)), k ≤ s.names.length ∧ i = .int .i64 k ∧ Hid (n'.length = s.names.length) ∧ Hid (OwnN wr wA.heap.size 73 (.slice a1n s.names.length c1n) n' ∧ OwnN wr wA.heap.size 73 (.slice a1s s.safe.length c1s) s.safe) ∧ Hid (OwnV wr w4.heap.size (.agg #[.int .i64 d.cap, .slice a5f d.files.length c5f, .slice a5n d.names.length c5n, .slice a5s d.safe.length c5s, .int .i64 d.next]) d ∧ OwnU wr w6.heap.size (.agg #[.int .i64 d.cap, .slice a7f d.files.length c7f, .slice a7n d.names.length c7n, .slice a7s d.safe.length c7s, .int .i64 d.next]) d ∧ (wr).heap[w1.heap.size]? = some (.cells #[.int .i64 s.cap, .slice a1f s.files.length c1f, .slice a1n s.names.length c1n, .slice a1s s.safe.length c1s, .int .i64 s.next] 33) ∧ (wr).heap[w5.heap.size]? = some (.cells #[.int .i64 d.cap, .slice a5f d.files.length c5f, .slice a5n d.names.length c5n, .slice a5s d.safe.length c5s, .int .i64 d.next] 33) ∧ (wr).heap[w7.heap.size]? = some (.cells #[.int .i64 d.cap, .slice a7f d.files.length c7f, .slice a7n d.names.length c7n, .slice a7s d.safe.length c7s, .int .i64 d.next] 25) ∧ Below w.heap.size w (wr))) (fun i _ => s.names.length - (intOf i).toNat)
      case atStart => exact ⟨0, s.names, Nat.zero_le _, rfl, rfl, N9', KK⟩
      case round =>
        obtain ⟨k, n', hk, rfl, HL', NN, KK⟩ := hrel
        have x1 := blk_cell KK.out.2.2.1 2 _ rfl
        by_cases hlt : k < s.names.length
        · have hlt' : (k : Int) < (s.names.length : Int) := by omega
          have him : k < n'.length := by rw [HL'.out]; exact hlt
          obtain ⟨g, rfl⟩ : ∃ g, a1n = some ⟨g, 0, none⟩ := by
            obtain ⟨_, h⟩ := NN.out.1.2.2
            rcases h with ⟨e, h0⟩ | ⟨g, c2, cur, e, _⟩
            · rw [List.length_map, HL'.out] at h0
              omega
            · simp at e
              exact ⟨g, e.1⟩
          obtain ⟨b, off, cap', e, _, _, c0, c1, _⟩ := (NamesW.own NN.out.1).at k him
          rw [HL'.out] at e
          simp at e
          obtain ⟨⟨rfl, rfl⟩, rfl⟩ := e
          simp only [Nat.zero_add] at c0 c1
          have fz : wr.frozen? ⟨g, k * 2 + 1, none⟩ = false := by
            obtain ⟨cur, hh, _⟩ := NN.out.1.2.blk
            exact blk_frozen hh _
          have hg5 := grown_set wr ⟨g, k * 2 + 1, none⟩ (.int .i64 (-1))
          have N3 : Hid (OwnN (wr.setCell ⟨g, k * 2 + 1, none⟩ (.int .i64 (-1))) wA.heap.size 73 (.slice (some ⟨g, 0, none⟩) s.names.length c1n) (n'.set k ((n'.getD k ([], 0)).1, -1)) ∧ OwnN (wr.setCell ⟨g, k * 2 + 1, none⟩ (.int .i64 (-1))) wA.heap.size 73 (.slice a1s s.safe.length c1s) s.safe) := ⟨NN.out.1.ided HL'.out k hlt (-1) (by unfold In64; omega), NN.out.2.far hg5 (HAp.out.symm)⟩
          have K3 : Hid (OwnV (wr.setCell ⟨g, k * 2 + 1, none⟩ (.int .i64 (-1))) w4.heap.size (.agg #[.int .i64 d.cap, .slice a5f d.files.length c5f, .slice a5n d.names.length c5n, .slice a5s d.safe.length c5s, .int .i64 d.next]) d ∧ OwnU (wr.setCell ⟨g, k * 2 + 1, none⟩ (.int .i64 (-1))) w6.heap.size (.agg #[.int .i64 d.cap, .slice a7f d.files.length c7f, .slice a7n d.names.length c7n, .slice a7s d.safe.length c7s, .int .i64 d.next]) d ∧ ((wr.setCell ⟨g, k * 2 + 1, none⟩ (.int .i64 (-1)))).heap[w1.heap.size]? = some (.cells #[.int .i64 s.cap, .slice a1f s.files.length c1f, .slice (some ⟨g, 0, none⟩) s.names.length c1n, .slice a1s s.safe.length c1s, .int .i64 s.next] 33) ∧ ((wr.setCell ⟨g, k * 2 + 1, none⟩ (.int .i64 (-1)))).heap[w5.heap.size]? = some (.cells #[.int .i64 d.cap, .slice a5f d.files.length c5f, .slice a5n d.names.length c5n, .slice a5s d.safe.length c5s, .int .i64 d.next] 33) ∧ ((wr.setCell ⟨g, k * 2 + 1, none⟩ (.int .i64 (-1)))).heap[w7.heap.size]? = some (.cells #[.int .i64 d.cap, .slice a7f d.files.length c7f, .slice a7n d.names.length c7n, .slice a7s d.safe.length c7s, .int .i64 d.next] 25) ∧ Below w.heap.size w ((wr.setCell ⟨g, k * 2 + 1, none⟩ (.int .i64 (-1))))) := HKP.out _ _ _ _ _ _ _ _ KK.out NN.out.1.2.2 h0A (fun q hq => by have := LN.out q hq; omega) (by decide) (by decide) hg5
          have M3 : Hid ((n'.set k ((n'.getD k ([], 0)).1, -1)).length = s.names.length) := by unfold Hid; rw [List.length_set, HL'.out]
          clear hg5 NN KK HL' c0
          go_wp2_with fail
          exact ⟨⟨k + 1, _, by omega, by go_num, M3, N3, K3⟩, by simp [intOf]; omega⟩
        · have hlt' : ¬ (k : Int) < (s.names.length : Int) := by omega
          have S9 : Hid (OwnN wr wA.heap.size 73 (.slice a1s s.safe.length c1s) s.safe) := NN.out.2
          clear N9' HL' NN
          go_wp2_with fail
          clear x1
          go_loopw [13] (fun i wr => ∃ (k : Nat) (n' : List (List Int × Int)), k ≤ s.safe.length ∧ i = .int .i64 k ∧ Hid (n'.length = s.safe.length) ∧ Hid (OwnN wr wA.heap.size 73 (.slice a1s s.safe.length c1s) n') ∧ Hid (OwnV wr w4.heap.size (.agg #[.int .i64 d.cap, .slice a5f d.files.length c5f, .slice a5n d.names.length c5n, .slice a5s d.safe.length c5s, .int .i64 d.next]) d ∧ OwnU wr w6.heap.size (.agg #[.int .i64 d.cap, .slice a7f d.files.length c7f, .slice a7n d.names.length c7n, .slice a7s d.safe.length c7s, .int .i64 d.next]) d ∧ (wr).heap[w1.heap.size]? = some (.cells #[.int .i64 s.cap, .slice a1f s.files.length c1f, .slice a1n s.names.length c1n, .slice a1s s.safe.length c1s, .int .i64 s.next] 33) ∧ (wr).heap[w5.heap.size]? = some (.cells #[.int .i64 d.cap, .slice a5f d.files.length c5f, .slice a5n d.names.length c5n, .slice a5s d.safe.length c5s, .int .i64 d.next] 33) ∧ (wr).heap[w7.heap.size]? = some (.cells #[.int .i64 d.cap, .slice a7f d.files.length c7f, .slice a7n d.names.length c7n, .slice a7s d.safe.length c7s, .int .i64 d.next] 25) ∧ Below w.heap.size w (wr))) (fun i _ => s.safe.length - (intOf i).toNat)
          case atStart => exact ⟨0, s.safe, Nat.zero_le _, rfl, rfl, S9, KK⟩
          case round =>
            obtain ⟨k, n', hk, rfl, HL', NN, KK⟩ := hrel
            have x1 := blk_cell KK.out.2.2.1 3 _ rfl
            by_cases hlt : k < s.safe.length
            · have hlt' : (k : Int) < (s.safe.length : Int) := by omega
              have him : k < n'.length := by rw [HL'.out]; exact hlt
              obtain ⟨g, rfl⟩ : ∃ g, a1s = some ⟨g, 0, none⟩ := by
                obtain ⟨_, h⟩ := NN.out.2.2
                rcases h with ⟨e, h0⟩ | ⟨g, c2, cur, e, _⟩
                · rw [List.length_map, HL'.out] at h0
                  omega
                · simp at e
                  exact ⟨g, e.1⟩
              obtain ⟨b, off, cap', e, _, _, c0, c1, _⟩ := (NamesW.own NN.out).at k him
              rw [HL'.out] at e
              simp at e
              obtain ⟨⟨rfl, rfl⟩, rfl⟩ := e
              simp only [Nat.zero_add] at c0 c1
              have fz : wr.frozen? ⟨g, k * 2 + 1, none⟩ = false := by
                obtain ⟨cur, hh, _⟩ := NN.out.2.blk
                exact blk_frozen hh _
              have hg5 := grown_set wr ⟨g, k * 2 + 1, none⟩ (.int .i64 (-1))
              have N3 : Hid (OwnN (wr.setCell ⟨g, k * 2 + 1, none⟩ (.int .i64 (-1))) wA.heap.size 73 (.slice (some ⟨g, 0, none⟩) s.safe.length c1s) (n'.set k ((n'.getD k ([], 0)).1, -1))) := NN.out.ided HL'.out k hlt (-1) (by unfold In64; omega)
              have K3 : Hid (OwnV (wr.setCell ⟨g, k * 2 + 1, none⟩ (.int .i64 (-1))) w4.heap.size (.agg #[.int .i64 d.cap, .slice a5f d.files.length c5f, .slice a5n d.names.length c5n, .slice a5s d.safe.length c5s, .int .i64 d.next]) d ∧ OwnU (wr.setCell ⟨g, k * 2 + 1, none⟩ (.int .i64 (-1))) w6.heap.size (.agg #[.int .i64 d.cap, .slice a7f d.files.length c7f, .slice a7n d.names.length c7n, .slice a7s d.safe.length c7s, .int .i64 d.next]) d ∧ ((wr.setCell ⟨g, k * 2 + 1, none⟩ (.int .i64 (-1)))).heap[w1.heap.size]? = some (.cells #[.int .i64 s.cap, .slice a1f s.files.length c1f, .slice a1n s.names.length c1n, .slice (some ⟨g, 0, none⟩) s.safe.length c1s, .int .i64 s.next] 33) ∧ ((wr.setCell ⟨g, k * 2 + 1, none⟩ (.int .i64 (-1)))).heap[w5.heap.size]? = some (.cells #[.int .i64 d.cap, .slice a5f d.files.length c5f, .slice a5n d.names.length c5n, .slice a5s d.safe.length c5s, .int .i64 d.next] 33) ∧ ((wr.setCell ⟨g, k * 2 + 1, none⟩ (.int .i64 (-1)))).heap[w7.heap.size]? = some (.cells #[.int .i64 d.cap, .slice a7f d.files.length c7f, .slice a7n d.names.length c7n, .slice a7s d.safe.length c7s, .int .i64 d.next] 25) ∧ Below w.heap.size w ((wr.setCell ⟨g, k * 2 + 1, none⟩ (.int .i64 (-1))))) := HKP.out _ _ _ _ _ _ _ _ KK.out NN.out.2.2 h0A (fun q hq => by have := LS.out q hq; omega) (by decide) (by decide) hg5
              have M3 : Hid ((n'.set k ((n'.getD k ([], 0)).1, -1)).length = s.safe.length) := by unfold Hid; rw [List.length_set, HL'.out]
              clear hg5 NN KK HL' c0
              go_wp2_with fail
              exact ⟨⟨k + 1, _, by omega, by go_num, M3, N3, K3⟩, by simp [intOf]; omega⟩
            · have hlt' : ¬ (k : Int) < (s.safe.length : Int) := by omega
              go_wp2_with fail
              refine (num_any de _).mono ?_
              rintro e wz ⟨rfl, hwz⟩
              have hwz' : wr = wz := hwz.symm
              clear hwz
              subst hwz'
              obtain ⟨p0, p1, p2, p3, p4⟩ := box_cells KK.out.2.2.2.1
              obtain ⟨q0, q1, q2, q3, q4⟩ := box_cells KK.out.2.2.2.2.1
              go_wp2_with fail
              refine (alike_self d _ _ wr (StW.own KK.out.1) (StW.ownU KK.out.2.1)).mono ?_
              rintro e wy ⟨rfl, u⟩
              have UY : Hid (Below w.heap.size w wy) := up_trans KK.out.2.2.2.2.2 u
              clear u
              go_wp2_with fail
              go_ret
              exact ⟨rfl, UY.out⟩
end Go.Proofs.Ytoceddpjkodfkaa

/- The law FilesOwn holds: for every state and act the Go function returns true, and what was handed in reads as before; no conditions. -/
namespace Go.Proofs.Ytoceddpjkodfkaa.filesOwn
open Go.ChangeShapes Go.WideShapes Go.ChangeAt Go.RowKit
open Go.ChangeMaps (open_string shut_string)
set_option linter.unusedVariables false

theorem own : ownKnob Try.prog.godebug = none := by kernel_rfl
theorem laidOut : laidOutB Try.prog = true := by kernel_rfl

set_option maxRecDepth 100000 in
theorem lifted (os : Os) (started : os.Started) (H : Type) (enc : TypeId × Value → H) :
    ReturnsInHanded {} Try.checked os 8 .any (Rows.filesOwnSpec.pre6 enc Try.prog Try.f8 Rows.filesOwnRow.domain false) (Rows.filesOwnSpec.post enc Try.prog Try.f8 false true false false) := by
  refine returnsInHanded_of_change_sized (C := Try.checked) own started (by kernel_rfl) Try.func8
    (ChangeSpec.witness6 (enc := enc) (C := Try.checked) false ⟨#[], #[.agg #[.int .i64 0, .slice none 0 0, .slice none 0 0, .slice none 0 0, .int .i64 0], .agg #[.int .i64 0, .string ⟨#[]⟩, .string ⟨#[]⟩, .slice none 0 0]], []⟩ 8 (by kernel_rfl) (by kernel_rfl) (by kernel_rfl) (by kernel_rfl)) ?_
  intro W base args ds gs before hval0 hW hcnd hsz0 _
  have hsz : (DataW.weightsEach Try.prog (Try.f8.params.toList ++ Rows.filesOwnSpec.plain.varTypes Try.prog) (ds ++ gs)).all (· ≤ reachBytes) = true := hsz0
  have hval : ∀ (j : Nat) t v, Try.f8.params[j]? = some t → args[j]? = some v → Value.okWide Try.prog W .any base t v := hval0
  have hW' := hW
  obtain ⟨p, q, hA0, hV, rfl, hfz, hnd⟩ := hW
  have hA : DataW.TrodAll enc Try.prog W 0 (fun _ => true) true Try.f8.params.toList args.toList ds p := hA0
  rw [Try.params8] at hA hval hsz
  obtain ⟨v0, vs0, d0, ds0, p0, q0, hargs, rfl, rfl, h0, r0⟩ := trodAll_cons hA
  obtain ⟨v1, vs1, d1, ds1, p1, q1, rfl, rfl, rfl, h1, r1⟩ := trodAll_cons r0
  obtain ⟨rfl, rfl, rfl⟩ := trodAll_nil r1
  obtain rfl : args = #[v0, v1] := by cases args; simp_all
  obtain ⟨rfl, rfl⟩ := trodVars_none hV
  have k0 := h0
  have lt0 : ∀ x ∈ p0, x.block < W.heap.size := by obtain ⟨m, hm⟩ := k0; exact DataW.trod_lt m _ _ _ hm
  obtain ⟨s0, w0, b0, c0, e0⟩ := arg_state (hval 0 25 v0 rfl rfl) h0 (fun m hm => by simpa using List.all_eq_true.1 hsz m (DataW.weights_mem_each (j := 0) (t := 25) rfl rfl m hm))
  have k1 := h1
  have lt1 : ∀ x ∈ p1, x.block < W.heap.size := by obtain ⟨m, hm⟩ := k1; exact DataW.trod_lt m _ _ _ hm
  obtain ⟨l1, w1⟩ := arg_act (hval 1 28 v1 rfl rfl) h1 (fun m hm => by simpa using List.all_eq_true.1 hsz m (DataW.weights_mem_each (j := 1) (t := 28) rfl rfl m hm))
  clear hA0 hval0
  refine (own_walk s0 l1 _ _ W w0 w1 b0 c0 e0).mono fun e W' ⟨he, bel⟩ => ?_
  subst he
  exact ⟨_, rfl, _, _, _, [], _, [], hW', trodAll_mk1 (shut_bool Try.underlying4 _), (trodAll_cons_mk (Below.trod laidOut (by kernel_rfl) (of_decide_eq_true (by kernel_rfl)) k0 bel lt0) (trodAll_cons_mk (Below.trod laidOut (by kernel_rfl) (of_decide_eq_true (by kernel_rfl)) k1 bel lt1) trodAll_mk0)), rfl, bel.frame _, fun h => by cases h⟩

theorem over : Rows.filesOwnRow.holds Try.pinned (OpenSpec.ofChange Rows.filesOwnSpec) :=
  OpenClaim.holds_of_wide 8 Try.f8 rfl rfl rfl rfl rfl rfl rfl ⟨rfl, rfl, rfl, rfl, rfl⟩ rfl rfl rfl rfl rfl (by kernel_rfl) Try.func8 (by kernel_rfl)
    (of_decide_eq_true (by kernel_rfl)) (by unfold Func.isWrapper; first | (rw [if_pos (by decide +kernel)]; kernel_rfl) | (rw [if_neg (by decide +kernel)]; exact ⟨rfl, rfl⟩))
    (fun os started H enc _ => lifted os started H enc)
end Go.Proofs.Ytoceddpjkodfkaa.filesOwn

namespace Go.Proofs.Ytoceddpjkodfkaa
theorem filesOwn_holds : Rows.FilesOwnSaid := filesOwn.over
#print axioms filesOwn_holds
end Go.Proofs.Ytoceddpjkodfkaa
