/- The texts Y1, Y2, RL, in this order. -/
import Derived.Test.YtnchjlimkgbfpaaGreatDoorE32
import Derived.Test.YtnchjlimkgbfpaaGreatDoorE41
import Derived.Test.YtnchjlimkgbfpaaGreatDoorE22
import Derived.Deep.RegionHeld3

namespace Go.Proofs.YtnchjlimkgbfpaaGreatDoor
open Go.RowKit
set_option linter.unusedVariables false
set_option maxRecDepth 20000
set_option linter.unusedSimpArgs false
def OwnG (w : World) (base : Nat) (v : Value) (m : List FRow) : Prop :=
  OwnR w base 111 3 v (m.map frow) ∧ (∀ y ∈ m, OwnB w base y.1 y.2.2.1 ∧ okRow y) ∧ m.Pairwise (fun y z => Apart y.1 z.1)
theorem OwnG.up {w w' : World} {base : Nat} {v : Value} {m : List FRow} (h : OwnG w base v m) (hb : Below w.heap.size w w') : OwnG w' base v m :=
  ⟨h.1.up hb, fun y hy => ⟨(h.2.1 y hy).1.up hb, (h.2.1 y hy).2⟩, h.2.2⟩
theorem OwnG.far {w w' : World} {base : Nat} {v : Value} {m : List FRow} {r : Option Nat} (h : OwnG w base v m) (hg : w.grownBy w' r) (h1 : v.ownBlock = none ∨ v.ownBlock ≠ r) (h2 : ∀ y ∈ m, y.1.ownBlock = none ∨ y.1.ownBlock ≠ r) : OwnG w' base v m :=
  ⟨h.1.far hg h1, fun y hy => ⟨(h.2.1 y hy).1.far hg (h2 y hy), (h.2.1 y hy).2⟩, h.2.2⟩
theorem OwnG.mono {w : World} {base base' : Nat} {v : Value} {m : List FRow} (h : OwnG w base v m) (hb : base' ≤ base) : OwnG w base' v m :=
  ⟨h.1.mono hb, fun y hy => ⟨(h.2.1 y hy).1.mono hb, (h.2.1 y hy).2⟩, h.2.2⟩
def OwnU (w : World) (base : Nat) (v : Value) (s : St) : Prop := ∃ vf vn vs m, v = .agg #[.int .i64 s.cap, vf, vn, vs, .int .i64 s.next] ∧ m.map (·.2) = s.files ∧ OwnG w base vf m ∧ OwnN w base 147 vn s.names ∧ OwnN w base 147 vs s.safe ∧ Apart vn vs ∧ In64 s.cap ∧ In64 s.next
theorem OwnU.up {w w' : World} {base : Nat} {v : Value} {s : St} (h : OwnU w base v s) (hb : Below w.heap.size w w') : OwnU w' base v s := by
  obtain ⟨vf, vn, vs, m, e, hm, h1, h2, h3, h4⟩ := h
  exact ⟨vf, vn, vs, m, e, hm, h1.up hb, h2.up hb, h3.up hb, h4⟩
theorem OwnU.mono {w : World} {base base' : Nat} {v : Value} {s : St} (h : OwnU w base v s) (hb : base' ≤ base) : OwnU w base' v s := by
  obtain ⟨vf, vn, vs, m, e, hm, h1, h2, h3, h4⟩ := h
  exact ⟨vf, vn, vs, m, e, hm, h1.mono hb, h2.mono hb, h3.mono hb, h4⟩
theorem OwnG.snoc {w' w6 : World} {base : Nat} {vl : Option Addr} {n cl : Nat} {v6 : Value} {m : List FRow} {y : FRow} (h : OwnG w' base (.slice vl n cl) m) (hb : OwnB w' base y.1 y.2.2.1) (hok : okRow y) (hnew : ∀ z ∈ m, Apart z.1 y.1) (o : Obj) (o6 : OwnR w6 base 111 3 v6 (m.map frow ++ [frow y])) (g6 : (w'.alloc o).grownBy w6 (Value.ownBlock (.slice vl n cl))) : OwnG w6 base v6 (m ++ [y]) := by
  have u := up_al (Below.refl w'.heap.size w') o
  have hr := (h.up u).1
  refine ⟨by rw [List.map_append]; exact o6, ?_, ?_⟩
  · intro z hz
    rcases List.mem_append.1 hz with hz | hz
    · have := (h.up u).2.1 z hz
      exact ⟨this.1.far g6 (own_own_ne this.1 hr.2 (by decide)), this.2⟩
    · simp at hz
      subst hz
      exact ⟨(hb.up u).far g6 (own_own_ne (hb.up u) hr.2 (by decide)), hok⟩
  · rw [List.pairwise_append]
    refine ⟨h.2.2, by simp, ?_⟩
    intro a ha b hb'
    simp at hb'
    subst hb'
    exact hnew a ha
def OwnT (w : World) (base B : Nat) (s : St) : Prop := True ∧ ∃ vf vn vs m, w.heap[B]? = some (.cells #[.int .i64 s.cap, vf, vn, vs, .int .i64 s.next] 25) ∧ m.map (·.2) = s.files ∧ OwnG w base vf m ∧ OwnN w base 147 vn s.names ∧ OwnN w base 147 vs s.safe ∧ Apart vn vs ∧ In64 s.cap ∧ In64 s.next
theorem OwnT.up {w w' : World} {base B : Nat} {s : St} (h : OwnT w base B s) (hb : Below w.heap.size w w') : OwnT w' base B s := by
  obtain ⟨h0, vf, vn, vs, m, hb1, hm, h1, h2, h3, h4⟩ := h
  exact ⟨h0, vf, vn, vs, m, blk_up hb1 hb, hm, h1.up hb, h2.up hb, h3.up hb, h4⟩
theorem OwnG.filter {w w' : World} {base : Nat} {v v' : Value} {m : List FRow} (p : FRow → Bool) {r : Option Nat} (h : OwnG w base v m) (hv : OwnR w' base 111 3 v' ((m.filter p).map frow)) (hg : w.grownBy w' v.ownBlock) : OwnG w' base v' (m.filter p) := by
  refine ⟨hv, fun y hy => ?_, h.2.2.filter p⟩
  have h1 := h.2.1 y (List.mem_filter.1 hy).1
  exact ⟨h1.1.far hg (own_own_ne h1.1 h.1.2 (by decide)), h1.2⟩
def OpenT (w : World) (base B : Nat) (s : St) (af : Option Addr) (cf : Nat) (an : Option Addr) (cn : Nat) (as' : Option Addr) (cs' : Nat) (m : List FRow) : Prop :=
  True ∧ w.heap[B]? = some (.cells #[.int .i64 s.cap, .slice af m.length cf, .slice an s.names.length cn, .slice as' s.safe.length cs', .int .i64 s.next] 25) ∧ m.map (·.2) = s.files ∧ OwnG w base (.slice af m.length cf) m ∧
    OwnN w base 147 (.slice an s.names.length cn) s.names ∧ OwnN w base 147 (.slice as' s.safe.length cs') s.safe ∧ Apart (.slice an s.names.length cn) (.slice as' s.safe.length cs') ∧ In64 s.cap ∧ In64 s.next
theorem OpenT.up {w w' : World} {base B : Nat} {s : St} {af : Option Addr} {cf : Nat} {an : Option Addr} {cn : Nat} {as' : Option Addr} {cs' : Nat} {m : List FRow} (h : OpenT w base B s af cf an cn as' cs' m) (hb : Below w.heap.size w w') : OpenT w' base B s af cf an cn as' cs' m := by
  obtain ⟨hB, h1, hm, of, on, os, hap, hi1, hi2⟩ := h
  exact ⟨hB, blk_up h1 hb, hm, of.up hb, on.up hb, os.up hb, hap, hi1, hi2⟩
theorem OwnG.sync {w : World} {base g n c : Nat} {m : List FRow} (h : OwnG w base (.slice (some ⟨g, 0, none⟩) n c) m) (hn : m.length = n) (i : Nat) (hi : i < n) (k : Int) (hk : In64 k) :
    OwnG (w.setCell ⟨g, i * 3 + 2, none⟩ (.int .i64 k)) base (.slice (some ⟨g, 0, none⟩) n c) (m.set i ((m.getD i noF).1, (m.getD i noF).2.1, (m.getD i noF).2.2.1, k)) := by
  have st := OwnR.set h.1 (by rw [List.length_map]; exact hn) i hi 2 (by decide) (.int .i64 k)
  have hmem : m.getD i noF ∈ m := by
    have : i < m.length := by omega
    simp [List.getD, this]
  have hrow : ((m.map frow).getD i []).set 2 (.int .i64 k) = frow ((m.getD i noF).1, (m.getD i noF).2.1, (m.getD i noF).2.2.1, k) := by
    have : i < m.length := by omega
    simp [List.getD, this, frow]
  rw [hrow, ← List.map_set] at st
  refine ⟨st.1, ?_, ?_⟩
  · intro y hy
    rcases List.mem_or_eq_of_mem_set hy with q | q
    · have := h.2.1 y q
      exact ⟨this.1.far st.2.1 (own_own_ne this.1 h.1.2 (by decide)), this.2⟩
    · have := h.2.1 _ hmem
      rw [q]
      exact ⟨this.1.far st.2.1 (own_own_ne this.1 h.1.2 (by decide)), this.2.1, this.2.2.1, this.2.2.2.1, hk⟩
  · refine pairwise_set (by omega) h.2.2 fun j hj hne => ?_
    exact apart_at h.2.2 i j (by omega) hj (fun q => hne q.symm)
theorem OwnG.data {w w1 : World} {base g n c : Nat} {m : List FRow} (h : OwnG w base (.slice (some ⟨g, 0, none⟩) n c) m) (hn : m.length = n) (i : Nat) (hi : i < n) {v' : Value} {d : List Int} (ho : OwnB w1 base v' d) (hg : w.grownBy w1 (m.getD i noF).1.ownBlock) (hnear : Near w (m.getD i noF).1 v') (hd : OctL d ∧ d.length ≤ 140737488355328) :
    OwnG (w1.setCell ⟨g, i * 3 + 1, none⟩ v') base (.slice (some ⟨g, 0, none⟩) n c) (m.set i (v', (m.getD i noF).2.1, d, (m.getD i noF).2.2.2)) := by
  have hmem : m.getD i noF ∈ m := by
    have : i < m.length := by omega
    simp [List.getD, this]
  have hi0 := h.2.1 _ hmem
  have hR1 := h.1.far hg (own_own_ne h.1.2 hi0.1 (by decide))
  have st := OwnR.set hR1 (by rw [List.length_map]; exact hn) i hi 1 (by decide) v'
  have hrow : ((m.map frow).getD i []).set 1 v' = frow (v', (m.getD i noF).2.1, d, (m.getD i noF).2.2.2) := by
    have : i < m.length := by omega
    simp [List.getD, this, frow]
  rw [hrow, ← List.map_set] at st
  have others : ∀ j, j < m.length → j ≠ i → OwnB w1 base (m.getD j noF).1 (m.getD j noF).2.2.1 := by
    intro j hj hne
    have hm : m.getD j noF ∈ m := by simp [List.getD, hj]
    exact (h.2.1 _ hm).1.far hg (apart_at h.2.2 j i hj (by omega) hne)
  refine ⟨st.1, ?_, ?_⟩
  · intro y hy
    obtain ⟨j, hj, rfl⟩ := List.getElem_of_mem hy
    have hj' : j < m.length := by simpa using hj
    rw [List.getElem_set]
    by_cases e : i = j
    · rw [if_pos e]
      exact ⟨ho.far st.2.1 (own_own_ne ho hR1.2 (by decide)), hd.1, hd.2, hi0.2.2.2.1, hi0.2.2.2.2⟩
    · rw [if_neg e]
      have h1 := others j hj' (fun q => e q.symm)
      have e1 : m.getD j noF = m[j] := by simp [List.getD, hj']
      rw [e1] at h1
      exact ⟨h1.far st.2.1 (own_own_ne h1 hR1.2 (by decide)), (h.2.1 m[j] (List.getElem_mem hj')).2⟩
  · refine pairwise_set (by omega) h.2.2 fun j hj hne => ?_
    have hm : m.getD j noF ∈ m := by simp [List.getD, hj]
    exact hnear.apart (apart_at h.2.2 i j (by omega) hj (fun q => hne q.symm)) (h.2.1 _ hm).1
theorem OpenT.cells3 {w : World} {base B : Nat} {s : St} {g cf : Nat} {an : Option Addr} {cn : Nat} {as' : Option Addr} {cs' : Nat} {m : List FRow} (h : OpenT w base B s (some ⟨g, 0, none⟩) cf an cn as' cs' m) (i : Nat) (hi : i < m.length) :
    w.cell? ⟨g, i * 3, none⟩ = some (.int .i64 (m.getD i noF).2.1) ∧ w.cell? ⟨g, i * 3 + 1, none⟩ = some (m.getD i noF).1 ∧ w.cell? ⟨g, i * 3 + 2, none⟩ = some (.int .i64 (m.getD i noF).2.2.2) ∧ ∀ q, w.frozen? ⟨g, q, none⟩ = false := by
  obtain ⟨b, off, cap, e, _, _, hc⟩ := (Rws.own h.2.2.2.1.1).at i (by rw [List.length_map]; exact hi)
  simp at e
  obtain ⟨⟨rfl, rfl⟩, _⟩ := e
  have hr : (m.map frow).getD i [] = frow (m.getD i noF) := by simp [List.getD, hi]
  rw [hr] at hc
  have c0 := hc 0 _ rfl
  have c1 := hc 1 _ rfl
  have c2 := hc 2 _ rfl
  simp only [Nat.zero_add, Nat.add_zero] at c0 c1 c2
  refine ⟨c0, c1, c2, fun q => ?_⟩
  obtain ⟨cur, hh, _⟩ := h.2.2.2.1.1.blk
  exact blk_frozen hh q
theorem OwnU.zero (w : World) (base : Nat) (c n : Int) (hc : In64 c) (hn : In64 n) : OwnU w base (.agg #[.int .i64 c, .slice none 0 0, .slice none 0 0, .slice none 0 0, .int .i64 n]) ⟨c, [], [], [], n⟩ :=
  ⟨_, _, _, [], rfl, rfl, ⟨OwnR.nil _ _ _ _, (fun y hy => by cases hy), List.Pairwise.nil⟩, OwnN.nil _ _ _, OwnN.nil _ _ _, .inl rfl, hc, hn⟩
theorem OwnT.take {w : World} {base B : Nat} {s : St} (h : OwnT w base B s) : ∃ vf vn vs, w.heap[B]? = some (.cells #[.int .i64 s.cap, vf, vn, vs, .int .i64 s.next] 25) ∧ OwnU w base (.agg #[.int .i64 s.cap, vf, vn, vs, .int .i64 s.next]) s := by
  obtain ⟨_, vf, vn, vs, m, hb, hm, of, on, os, hap, hi1, hi2⟩ := h
  exact ⟨vf, vn, vs, hb, vf, vn, vs, m, rfl, hm, of, on, os, hap, hi1, hi2⟩
theorem OwnU.put {w : World} {base : Nat} {s : St} {a b c d e : Value} (h : OwnU w base (.agg #[a, b, c, d, e]) s) {N : Nat} {x0 x1 x2 x3 x4 : Value} (hb : w.heap[N]? = some (.cells #[x0, x1, x2, x3, x4] 25)) :
    OwnT (set5 w N a b c d e) base N s ∧ OwnU (set5 w N a b c d e) base (.agg #[a, b, c, d, e]) s := by
  obtain ⟨vf, vn, vs, m, ev, hm, of, on, os, hap, hi1, hi2⟩ := h
  have g5 := set5_grown w N a b c d e
  have b5 := set5_blk hb a b c d e
  simp at ev
  obtain ⟨rfl, rfl, rfl, rfl, rfl⟩ := ev
  have of5 := of.far g5 (own_blk_ne of.1.2 hb (by decide)) (fun y hy => own_blk_ne (of.2.1 y hy).1 hb (by decide))
  have on5 := on.far g5 (own_blk_ne on.2.2 hb (by decide))
  have os5 := os.far g5 (own_blk_ne os.2.2 hb (by decide))
  exact ⟨⟨trivial, _, _, _, m, b5, hm, of5, on5, os5, hap, hi1, hi2⟩, ⟨_, _, _, m, rfl, hm, of5, on5, os5, hap, hi1, hi2⟩⟩
theorem OwnU.shape {w : World} {base : Nat} {v : Value} {s : St} (h : OwnU w base v s) : ∃ af nf cf an nn cn as' ns cs', v = .agg #[.int .i64 s.cap, .slice af nf cf, .slice an nn cn, .slice as' ns cs', .int .i64 s.next] := by
  obtain ⟨vf, vn, vs, m, rfl, hm, of, on, os, hap, hi1, hi2⟩ := h
  obtain ⟨a1, c1, e1, _, _⟩ := (NamesW.own on).len
  obtain ⟨a2, c2, e2, _, _⟩ := (NamesW.own os).len
  obtain ⟨a3, c3, e3, _, _⟩ := (Rws.own of.1).len
  subst e1
  subst e2
  subst e3
  exact ⟨_, _, _, _, _, _, _, _, _, rfl⟩
theorem OwnT.shape {w : World} {base B : Nat} {s : St} (h : OwnT w base B s) : ∃ af nf cf an nn cn as' ns cs', w.heap[B]? = some (.cells #[.int .i64 s.cap, .slice af nf cf, .slice an nn cn, .slice as' ns cs', .int .i64 s.next] 25) ∧ OwnU w base (.agg #[.int .i64 s.cap, .slice af nf cf, .slice an nn cn, .slice as' ns cs', .int .i64 s.next]) s := by
  obtain ⟨vf, vn, vs, hb, ov⟩ := h.take
  obtain ⟨a4, n4, c4, a5, n5, c5, a7, n7, c7, ev4⟩ := ov.shape
  simp at ev4
  obtain ⟨rfl, rfl, rfl⟩ := ev4
  exact ⟨_, _, _, _, _, _, _, _, _, hb, ov⟩
theorem OwnT.lt {w : World} {base B : Nat} {s : St} (h : OwnT w base B s) : B < w.heap.size := by
  obtain ⟨_, _, _, _, _, hb, _⟩ := h
  exact blk_lt hb
theorem OwnT.keep {w w' : World} {base B : Nat} {s : St} {r : Option Nat} (h : OwnT w base B s) (hg : w.grownBy w' r) (hr : ∀ k, r = some k → k < base ∧ k ≠ B) : OwnT w' base B s := by
  obtain ⟨h0, vf, vn, vs, m, hb, hm, of, on, os, hap, hi1, hi2⟩ := h
  have ne : ∀ {e sz : Nat} {v : Value} {n : Nat} {xs : List Value}, w.ownsRow base e sz v n xs → v.ownBlock = none ∨ v.ownBlock ≠ r := by
    intro e sz v n xs ho
    cases hv : v.ownBlock with
    | none => exact .inl rfl
    | some g =>
      refine .inr fun q => ?_
      have := (ho.lt g hv).1
      have := (hr g q.symm).1
      omega
  refine ⟨h0, vf, vn, vs, m, blk_grown hb hg (fun q => (hr B q.symm).2 rfl), hm, of.far hg (ne of.1.2) (fun y hy => ne (of.2.1 y hy).1), on.far hg (ne on.2.2), os.far hg (ne os.2.2), hap, hi1, hi2⟩
end Go.Proofs.YtnchjlimkgbfpaaGreatDoor

namespace Go.Proofs.YtnchjlimkgbfpaaGreatDoor
open Go.RowKit
set_option linter.unusedVariables false
set_option maxRecDepth 20000
set_option linter.unusedSimpArgs false
set_option maxHeartbeats 400000 in
theorem refCopied_any (l : List Int) (v : Value) (w : World) (hv : Octs w v l) (hl : l.length ≤ 140737488355328) :
    Calls Tryz.prog 95 #[v] w fun e w' => ∃ v', e = .returned v' ∧ OwnB w' w.heap.size v' l ∧ Below w.heap.size w w' := by
  have HV : Hid (Octs w v l) := hv
  clear hv
  go_enter Tryz.func95, Tryz.ntmps95
  go_wp2_with (at_builtin; refine wpList_append_octs _ rfl _ _ rfl w.heap.size _ [] rfl (World.ownsRow_nil _ _ _ _) _ l rfl HV.out ?c1 (Nat.le_refl _) ?_)
  case c1 => simpa using hl
  intro v' w' hown hg
  go_wp2
  go_ret
  refine ⟨_, rfl, hown, ?_⟩
  exact (Below.refl _ _).grown hg (Nat.le_refl _) (by simp [Value.ownBlock])
end Go.Proofs.YtnchjlimkgbfpaaGreatDoor

namespace Go.Proofs.YtnchjlimkgbfpaaGreatDoor
open Go.RowKit
set_option linter.unusedVariables false
set_option maxRecDepth 20000
set_option linter.unusedSimpArgs false
set_option maxHeartbeats 4000000 in
set_option maxRecDepth 20000 in
theorem refList_any (s : St) (v : Value) (w : World) (hv : StW w v s) :
    Calls Tryz.prog 61 #[v] w fun e w' => ∃ v', e = .returned (.tuple #[v', .int .i64 (listP s).2]) ∧ OwnR w' w.heap.size 9 1 v' ((listP s).1.map srow) ∧ Below w.heap.size w w' := by
  obtain ⟨af, cf, an, cn, as', cs', rfl⟩ := hv.form
  have HV : Hid (StW w (.agg #[.int .i64 s.cap, .slice af s.files.length cf, .slice an s.names.length cn, .slice as' s.safe.length cs', .int .i64 s.next]) s) := hv
  obtain ⟨N, hN⟩ : ∃ N, N = w.heap.size := ⟨_, rfl⟩
  obtain ⟨wx, hwx⟩ : ∃ wx, wx = w.alloc (.cells #[.int .i64 s.cap, .slice af s.files.length cf, .slice an s.names.length cn, .slice as' s.safe.length cs', .int .i64 s.next] 25) := ⟨_, rfl⟩
  have HWx : Hid (w.alloc (.cells #[.int .i64 s.cap, .slice af s.files.length cf, .slice an s.names.length cn, .slice as' s.safe.length cs', .int .i64 s.next] 25) = wx) := hwx.symm
  have b0 : wx.heap[N]? = some (.cells #[.int .i64 s.cap, .slice af s.files.length cf, .slice an s.names.length cn, .slice as' s.safe.length cs', .int .i64 s.next] 25) := by rw [hwx, hN]; exact blk_new w _
  have UX : Hid (Below w.heap.size w wx) := by rw [hwx]; exact up_alloc _ _
  clear hv hwx
  go_enter Tryz.func61, Tryz.ntmps61
  go_wp2_with fail
  rw [HWx.out, ← hN]
  clear HWx hN
  refine (refCheck_any s _ wx (HV.out.up UX.out)).mono ?_
  rintro e w1 ⟨rfl, u⟩
  have U1 : Hid (Below w.heap.size w w1) := up_trans UX.out u
  have B0 := blk_up b0 u
  clear b0 u UX
  cases hc : checkP s
  · have HR : Hid (listP s = ([], 9)) := by unfold Hid listP; rw [hc]; rfl
    have e9 : errOf false = 9 := rfl
    rw [e9]
    clear e9 hc
    go_wp2_with fail
    go_ret2
    rw [HR.out]
    exact ⟨_, rfl, OwnR.nil _ _ _ _, U1.out⟩
  · have HG : Hid (Good s) := check_good hc
    have HR : Hid (listP s = (s.names.map (·.1), 0)) := list_good HG.out
    have e0 : errOf true = 0 := rfl
    rw [e0]
    clear e0 hc
    have hfew := HG.out.few
    have hnl := few_names HG.out.names
    have HNm : Hid (NamesW w1 (.slice an s.names.length cn) s.names) := by
      obtain ⟨vf, vn, vs, ev, hf, hn, hs, _, _⟩ := HV.out.up U1.out
      simp at ev
      obtain ⟨rfl, rfl, rfl⟩ := ev
      exact hn
    have q2 := blk_cell B0 2 _ rfl
    go_wp2_with fail
    go_loopw [4, 5] (fun vb i wr => ∃ k : Nat, k ≤ s.names.length ∧ i = .int .i64 k ∧ Hid (OwnR wr w1.heap.size 9 1 vb (((s.names.take k).map (·.1)).map srow)) ∧ Hid (Below w1.heap.size w1 wr)) (fun _ i _ => s.names.length - (intOf i).toNat)
    case atStart => exact ⟨0, Nat.zero_le _, rfl, OwnR.nil _ _ _ _, Below.refl _ _⟩
    case round =>
      obtain ⟨k, hk, rfl, HO, up⟩ := hrel
      have r2 := (up.out.cell (World.block_lt_of_cell? _ _ q2)).trans q2
      by_cases hlt : k < s.names.length
      · have hlt' : (k : Int) < (s.names.length : Int) := by omega
        obtain ⟨b, off, cap', e, _, _, c0, c1, ho, hln, hi'⟩ := (HNm.out.up up.out).at k hlt
        simp at e
        obtain ⟨rfl, rfl⟩ := e
        have HT : Hid (s.names.take (k + 1) = s.names.take k ++ [s.names.getD k ([], 0)]) := take_snoc s.names k _ hlt
        have HKl : Hid ((((s.names.take k).map (·.1)).map srow).length = k) := by simp [Hid]; omega
        generalize s.names.getD k ([], 0) = y at *
        obtain ⟨ys, yi⟩ := y
        simp only at c0 c1 HT
        have hsz2 := up.out.size
        obtain ⟨vl, cl, ev5, _, _⟩ := (Rws.own HO.out).len
        subst ev5
        rw [HKl.out] at HO ⊢
        go_wp2_with (at_builtin; refine wpList_append_row wr rfl (.tmp 16) (.tmp 23) 62 9 (.string ⟨#[]⟩) 1 16 rfl Tryz.underlying62 Tryz.info9 rfl (by decide) w1.heap.size (.slice vl k cl) _ rfl HO.out (srow ys) _ wr.heap.size rfl rfl rfl rfl ?n2 ?n3 ?n4 hsz2 ?_)
        try case n2 => (intro u hu; simp [srow] at hu; subst hu; rfl)
        try case n3 => ((try rw [HKl.out]); omega)
        try case n4 => ((try rw [HKl.out]); unfold maxLen; omega)
        intro v6 w6 o6 b6
        have HO6 : Hid (OwnR w6 w1.heap.size 9 1 v6 (((s.names.take (k + 1)).map (·.1)).map srow)) := by
          unfold Hid
          rw [HT.out, List.map_append, List.map_append]
          simpa using o6
        have HU6 : Hid (Below w1.heap.size w1 w6) := up.out.trans b6
        clear o6 b6
        go_wp2_with fail
        exact ⟨⟨k + 1, by omega, by go_num, HO6, HU6⟩, by simp [intOf]; omega⟩
      · have hlt' : ¬ (k : Int) < (s.names.length : Int) := by omega
        obtain rfl : k = s.names.length := by omega
        rw [List.take_length] at HO
        have HO6 := HO
        go_wp2_with fail
        go_ret2
        rw [HR.out]
        exact ⟨_, rfl, HO6.out.mono U1.out.size, up_trans U1.out up.out⟩
set_option maxHeartbeats 8000000 in
set_option maxRecDepth 20000 in
theorem refRead_any (s : St) (name : List Int) (hna : OctL name) (v : Value) (w : World) (hv : StW w v s) :
    Calls Tryz.prog 53 #[v, .string (strOfNums name)] w fun e w' => ∃ v', e = .returned (.tuple #[v', .int .i64 (readP s name).2]) ∧ OwnB w' w.heap.size v' (readP s name).1 ∧ OctL (readP s name).1 ∧ Below w.heap.size w w' := by
  obtain ⟨af, cf, an, cn, as', cs', rfl⟩ := hv.form
  have HV : Hid (StW w (.agg #[.int .i64 s.cap, .slice af s.files.length cf, .slice an s.names.length cn, .slice as' s.safe.length cs', .int .i64 s.next]) s) := hv
  obtain ⟨N, hN⟩ : ∃ N, N = w.heap.size := ⟨_, rfl⟩
  obtain ⟨wx, hwx⟩ : ∃ wx, wx = w.alloc (.cells #[.int .i64 s.cap, .slice af s.files.length cf, .slice an s.names.length cn, .slice as' s.safe.length cs', .int .i64 s.next] 25) := ⟨_, rfl⟩
  have HWx : Hid (w.alloc (.cells #[.int .i64 s.cap, .slice af s.files.length cf, .slice an s.names.length cn, .slice as' s.safe.length cs', .int .i64 s.next] 25) = wx) := hwx.symm
  have b0 : wx.heap[N]? = some (.cells #[.int .i64 s.cap, .slice af s.files.length cf, .slice an s.names.length cn, .slice as' s.safe.length cs', .int .i64 s.next] 25) := by rw [hwx, hN]; exact blk_new w _
  have UX : Hid (Below w.heap.size w wx) := by rw [hwx]; exact up_alloc _ _
  clear hv hwx
  go_enter Tryz.func53, Tryz.ntmps53
  go_wp2_with fail
  rw [HWx.out, ← hN]
  clear HWx hN
  refine (refCheck_any s _ wx (HV.out.up UX.out)).mono ?_
  rintro e w1 ⟨rfl, u⟩
  have U1 : Hid (Below w.heap.size w w1) := up_trans UX.out u
  have B0 := blk_up b0 u
  clear b0 u UX
  cases hc : checkP s
  · have HR : Hid (readP s name = ([], 9)) := by unfold Hid readP; rw [hc]; rfl
    have e9 : errOf false = 9 := rfl
    rw [e9]
    clear e9 hc
    go_wp2_with fail
    go_ret2
    rw [HR.out]
    exact ⟨_, rfl, OwnB.nil _ _, (fun x hx => by cases hx), U1.out⟩
  · have HG : Hid (Good s) := check_good hc
    have e0 : errOf true = 0 := rfl
    rw [e0]
    have HC : Hid (checkP s = true) := hc
    clear e0 hc
    have HSt : Hid (FilesW w1 (.slice af s.files.length cf) s.files ∧ NamesW w1 (.slice an s.names.length cn) s.names) := by
      obtain ⟨vf, vn, vs, ev, hf, hn, hs, _, _⟩ := HV.out.up U1.out
      simp at ev
      obtain ⟨rfl, rfl, rfl⟩ := ev
      exact ⟨hf, hn⟩
    obtain ⟨q0, q1, q2, q3, q4⟩ := box_cells B0
    go_wp2_with fail
    refine (refFind_any s.names name hna _ w1 HSt.out.2).mono ?_
    rintro e w4 ⟨rfl, hw4⟩
    have hw4' : w1 = w4 := hw4.symm
    clear hw4
    subst hw4'
    cases hth : thereN s.names name
    · have hf := find_not HG.out.names.rise hth
      have HR : Hid (readP s name = ([], 71)) := by
        unfold Hid readP
        have hh : hasF s name = false := by unfold hasF; rw [hth]; rfl
        rw [HC.out, hh]
        rfl
      generalize findOf s.names name = fd at *
      clear hth
      go_wp2_with fail
      go_ret2
      rw [HR.out]
      exact ⟨_, rfl, OwnB.nil _ _, (fun x hx => by cases hx), U1.out⟩
    · obtain ⟨hi, e⟩ := there_at hth
      have hf := find_there hth
      obtain ⟨k, hk, ek, _, _⟩ := named HG.out hi
      have hrd := read_at HG.out hi hk ek
      rw [e] at hrd
      have HR : Hid (readP s name = ((s.files[k]).2.1, 0)) := hrd
      have hfk := file_rank HG.out hi
      have hrk : rankF s.files (s.names[rankN s.names name]).2 = k := by
        rw [← ek]
        exact rankF_at HG.out.rise hk
      rw [hrk] at hfk
      rw [hf]
      generalize rankN s.names name = i at *
      clear hf hth hrd hrk
      obtain ⟨b, off, cap', e8, _, _, c0, c1, _⟩ := HSt.out.2.at i hi
      simp at e8
      obtain ⟨rfl, rfl⟩ := e8
      have eid : (s.names.getD i ([], 0)).2 = (s.names[i]).2 := by simp [List.getD, hi]
      rw [eid] at c1
      obtain ⟨g, o2, cap2, u2, e9, _, _, d0, d1, d2, ho, hdl, _⟩ := HSt.out.1.at k hk
      simp at e9
      obtain ⟨rfl, rfl⟩ := e9
      have efl : s.files.getD k (0, [], 0) = s.files[k] := by simp [List.getD, hk]
      rw [efl] at ho hdl
      obtain ⟨ad, cd, rfl, _⟩ := ho.slice
      obtain ⟨dd, hdd⟩ : ∃ dd, dd = (s.files[k]).2.1 := ⟨_, rfl⟩
      rw [← hdd] at ho hdl d1 HR
      have HO : Hid (Octs w1 (.slice ad dd.length cd) dd ∧ dd.length ≤ 140737488355328) := ⟨ho, hdl⟩
      obtain ⟨id, hid⟩ : ∃ id, id = (s.names[i]).2 := ⟨_, rfl⟩
      rw [← hid] at c1 hfk
      have HFk : Hid (fileOf s.files id = (k : Int)) := hfk
      have hii : (i : Int) < (s.names.length : Int) := by omega
      have hkk : (k : Int) < (s.files.length : Int) := by omega
      have hi0 : ¬ (i : Int) < 0 := by omega
      obtain ⟨dn, hdn⟩ : ∃ dn, dn = dd.length := ⟨_, rfl⟩
      have HDn : Hid (dn = dd.length) := hdn
      rw [← hdn] at d1
      clear ho hdl hdd hid hfk eid efl e ek d0 d2 c0 hdn
      have l0 := World.block_lt_of_cell? _ _ q0
      have l1 := World.block_lt_of_cell? _ _ c1
      have l2 := World.block_lt_of_cell? _ _ d1
      simp only at l0 l1 l2
      have HK : Hid (∀ X, Below w1.heap.size w1 X → X.cell? ⟨N, 0, none⟩ = some (.int .i64 s.cap) ∧ X.cell? ⟨N, 1, none⟩ = some (.slice (some ⟨g, o2, none⟩) s.files.length cf) ∧ X.cell? ⟨N, 2, none⟩ = some (.slice (some ⟨b, off, none⟩) s.names.length cn) ∧ X.cell? ⟨N, 3, none⟩ = some (.slice as' s.safe.length cs') ∧ X.cell? ⟨N, 4, none⟩ = some (.int .i64 s.next) ∧ X.cell? ⟨b, off + i * 2 + 1, none⟩ = some (.int .i64 id) ∧ X.cell? ⟨g, o2 + k * 3 + 1, none⟩ = some (.slice ad dn cd)) := by
        intro X hX
        exact ⟨(hX.cell l0).trans q0, (hX.cell l0).trans q1, (hX.cell l0).trans q2, (hX.cell l0).trans q3, (hX.cell l0).trans q4, (hX.cell l1).trans c1, (hX.cell l2).trans d1⟩
      have UD : Hid (Below w1.heap.size w1 w1.drew) := up_dr (Below.refl _ _)
      have HC1 : Hid (∀ X, Below w1.heap.size w1 X → Calls Tryz.prog 96 #[.agg #[.int .i64 s.cap, .slice (some ⟨g, o2, none⟩) s.files.length cf, .slice (some ⟨b, off, none⟩) s.names.length cn, .slice as' s.safe.length cs', .int .i64 s.next], .int .i64 id] X fun e w' => e = .returned (.int .i64 (k : Int)) ∧ Hid (Below w1.heap.size w1 w')) := by
        intro X hX
        rw [← HFk.out]
        refine (refFile_any s.files id _ _ _ _ _ X (HSt.out.1.up hX)).mono ?_
        rintro e w' ⟨rfl, rfl⟩
        exact ⟨rfl, up_al hX _⟩
      have HC2 : Hid (∀ X, Below w1.heap.size w1 X → Calls Tryz.prog 95 #[.slice ad dn cd] X fun e w' => ∃ a5 c5, e = .returned (.slice a5 dn c5) ∧ Hid (OwnB w' w1.heap.size (.slice a5 dn c5) dd ∧ Below w1.heap.size w1 w')) := by
        intro X hX
        have hoX := HO.out.1.up hX
        rw [← HDn.out] at hoX
        refine (refCopied_any dd _ X hoX HO.out.2).mono ?_
        rintro e w' ⟨v', rfl, ob, u⟩
        obtain ⟨a5, c5, ev, _⟩ := (Octs.own ob HO.out.1.1).slice
        rw [← HDn.out] at ev
        subst ev
        exact ⟨a5, c5, rfl, ob.mono hX.size, up_trans hX u⟩
      go_upto_region 6 with fail
      go_region_held3 (fun X => X.cell? ⟨N, 0, none⟩ = some (.int .i64 s.cap) ∧ X.cell? ⟨N, 1, none⟩ = some (.slice (some ⟨g, o2, none⟩) s.files.length cf) ∧ X.cell? ⟨N, 2, none⟩ = some (.slice (some ⟨b, off, none⟩) s.names.length cn) ∧ X.cell? ⟨N, 3, none⟩ = some (.slice as' s.safe.length cs') ∧ X.cell? ⟨N, 4, none⟩ = some (.int .i64 s.next) ∧ X.cell? ⟨b, off + i * 2 + 1, none⟩ = some (.int .i64 id) ∧ X.cell? ⟨g, o2 + k * 3 + 1, none⟩ = some (.slice ad dn cd)) (first | with_reducible exact HK.out _ UD.out | with_reducible exact HK.out _ h5.out | with_reducible exact HK.out _ h6.out.2) (first | (go_at_call 96; with_reducible refine (HC1.out _ UD.out).mono ?_; rintro e w5 ⟨rfl, h5⟩) | (go_at_call 95; with_reducible refine (HC2.out _ h5.out).mono ?_; rintro e w6 ⟨a5, c5, rfl, h6⟩))
      all_goals
        go_wp2_with fail
        go_ret2
        rw [HR.out]
        exact ⟨_, rfl, h6.out.1.mono U1.out.size, HO.out.1.1, up_trans U1.out h6.out.2⟩
end Go.Proofs.YtnchjlimkgbfpaaGreatDoor
