/- The texts P9, Q1, in this order. -/
import Derived.Test.YtnchjlimkgbfpaaGreatDoorJ07
import Derived.Deep.RegionLaw
import Derived.Laws.CopyRow
import Derived.Laws.IdiomCopy
import Derived.Lib.AppendZerosOnto
import Derived.Lib.Overlaps
import Derived.Laws.Externs

namespace Go.Proofs.YtnchjlimkgbfpaaGreatDoor
open Go.RowKit
set_option linter.unusedVariables false
set_option maxRecDepth 20000
theorem results_state {fn : Func} (h : fn.results = #[.cell 2 35]) (tmps : Array Value) (w : World) {N : Nat} {a b c d e : Value} (ht : tmps.getD 2 undef = .pointer (some ⟨N, 0, none⟩))
    (hc : w.heap[N]? = some (.cells #[a, b, c, d, e] 35)) : (results fn tmps).run Tryz.prog w = .ok (.agg #[a, b, c, d, e]) w := by
  have c0 := blk_cell hc 0 a rfl
  have c1 := blk_cell hc 1 b rfl
  have c2 := blk_cell hc 2 c rfl
  have c3 := blk_cell hc 3 d rfl
  have c4 := blk_cell hc 4 e rfl
  have ht' : tmps[2]?.getD undef = .pointer (some ⟨N, 0, none⟩) := by simpa using ht
  simp only [results, h]
  simp [ht', go_sem, c0, c1, c2, c3, c4]
def set5 (w : World) (N : Nat) (a b c d e : Value) : World := ((((w.setCell ⟨N, 0, none⟩ a).setCell ⟨N, 1, none⟩ b).setCell ⟨N, 2, none⟩ c).setCell ⟨N, 3, none⟩ d).setCell ⟨N, 4, none⟩ e
theorem set5_blk {w : World} {N : Nat} {t : TypeId} {x0 x1 x2 x3 x4 : Value} (h : w.heap[N]? = some (.cells #[x0, x1, x2, x3, x4] t)) (a b c d e : Value) : (set5 w N a b c d e).heap[N]? = some (.cells #[a, b, c, d, e] t) :=
  blk_set (blk_set (blk_set (blk_set (blk_set h 0 a) 1 b) 2 c) 3 d) 4 e
theorem set5_grown (w : World) (N : Nat) (a b c d e : Value) : w.grownBy (set5 w N a b c d e) (some N) :=
  grown_trans (grown_trans (grown_trans (grown_trans (grown_set w ⟨N, 0, none⟩ a) (grown_set _ ⟨N, 1, none⟩ b)) (grown_set _ ⟨N, 2, none⟩ c)) (grown_set _ ⟨N, 3, none⟩ d)) (grown_set _ ⟨N, 4, none⟩ e)
def Half (w : World) (base : Nat) (v : Value) (m m' : List FRow) (k : Nat) : Prop :=
  m'.map (·.2) = m.map (·.2) ∧ (∀ j, k ≤ j → j < m.length → m'.getD j (undef, 0, [], 0) = m.getD j (undef, 0, [], 0)) ∧ OwnR w base 110 3 v (m'.map frow) ∧ (∀ j, j < k → j < m.length → OwnB w base (m'.getD j (undef, 0, [], 0)).1 (m'.getD j (undef, 0, [], 0)).2.2.1) ∧
    ∀ i j, i < j → j < k → j < m.length → Apart (m'.getD i (undef, 0, [], 0)).1 (m'.getD j (undef, 0, [], 0)).1
theorem half_len {w : World} {base : Nat} {v : Value} {m m' : List FRow} {k : Nat} (h : Half w base v m m' k) : m'.length = m.length := by
  have := congrArg List.length h.1
  simpa using this
theorem half_at {w : World} {base : Nat} {v : Value} {m m' : List FRow} {k : Nat} (h : Half w base v m m' k) (j : Nat) (hj : j < m.length) : (m'.getD j (undef, 0, [], 0)).2 = (m.getD j (undef, 0, [], 0)).2 := by
  have hl := half_len h
  have e : (m'.map (·.2))[j]? = (m.map (·.2))[j]? := by rw [h.1]
  rw [List.getElem?_map, List.getElem?_map, List.getElem?_eq_getElem (by omega), List.getElem?_eq_getElem hj] at e
  simp at e
  simpa [List.getD, hj, hl] using e
theorem half_done {w : World} {base : Nat} {v : Value} {m m' : List FRow} (h : Half w base v m m' m.length) (ho : ∀ y ∈ m, okRow y) : OwnF w base v m' ∧ m'.map (·.2) = m.map (·.2) := by
  have hl := half_len h
  refine ⟨⟨h.2.2.1, ?_, ?_⟩, h.1⟩
  · intro y hy
    obtain ⟨j, hj, rfl⟩ := List.getElem_of_mem hy
    have h1 := h.2.2.2.1 j (by omega) (by omega)
    have h2 := half_at h j (by omega)
    have e : m'.getD j (undef, 0, [], 0) = m'[j] := by simp [List.getD, hj]
    rw [e] at h1 h2
    refine ⟨h1, ?_⟩
    unfold okRow
    rw [h2]
    have e2 : m.getD j (undef, 0, [], 0) ∈ m := by
      have : j < m.length := by omega
      simp [List.getD, this]
    exact ho _ e2
  · rw [List.pairwise_iff_getElem]
    intro i j hi hj hij
    have := h.2.2.2.2 i j hij (by omega) (by omega)
    simpa [List.getD, hi, hj] using this
theorem Half.set {w w2 w' : World} {base : Nat} {v v' : Value} {m m' : List FRow} {k : Nat} (h : Half w base v m m' k) (hk : k < m.length) (hup : Below w.heap.size w w2) (hv : OwnB w2 w.heap.size v' (m'.getD k (undef, 0, [], 0)).2.2.1) (hbase : base ≤ w.heap.size)
    {g n cap : Nat} (hs : v = .slice (some ⟨g, 0, none⟩) n cap) (hw : w' = w2.setCell ⟨g, k * 3 + 1, none⟩ v') : Half w' base v m (m'.set k (v', (m'.getD k (undef, 0, [], 0)).2)) (k + 1) := by
  have hl := half_len h
  have hl2 : (m'.map frow).length = n := by
    have := (Rws.own h.2.2.1).len
    obtain ⟨a, c, e, _⟩ := this
    rw [hs] at e
    injection e with _ e2 _
    exact e2.symm
  have hn : n = m.length := by rw [← hl2, List.length_map, hl]
  have st := OwnR.set (hs ▸ (h.2.2.1.up hup)) hl2 k (by omega) 1 (by omega) v'
  have hfar := st.2.1
  have hown : OwnR w2 base 110 3 (.slice (some ⟨g, 0, none⟩) n cap) (m'.map frow) := hs ▸ (h.2.2.1.up hup)
  have hob : Value.ownBlock (.slice (some ⟨g, 0, none⟩) n cap) = some g := rfl
  refine ⟨?_, ?_, ?_, ?_, ?_⟩
  · rw [← h.1]
    apply List.ext_getElem (by simp)
    intro j h1 h2
    rw [List.getElem_map, List.getElem_map, List.getElem_set]
    split
    · rename_i e
      subst e
      have : k < m'.length := by omega
      simp [List.getD, this]
    · rfl
  · intro j hj hjm
    rw [← h.2.1 j (by omega) hjm]
    have : k ≠ j := by omega
    simp [List.getD, this]
  · rw [hw, hs]
    have e : (m'.set k (v', (m'.getD k (undef, 0, [], 0)).2)).map frow = (m'.map frow).set k (((m'.map frow).getD k []).set 1 v') := by
      rw [List.map_set]
      have hk' : k < m'.length := by omega
      congr 1
      simp [List.getD, hk', frow]
    rw [e]
    exact st.1
  · intro j hj hjm
    have hk' : k < m'.length := by omega
    rw [hw]
    by_cases e : j = k
    · subst e
      have e1 : (m'.set j (v', (m'.getD j (undef, 0, [], 0)).2)).getD j (undef, 0, [], 0) = (v', (m'.getD j (undef, 0, [], 0)).2) := by simp [List.getD, hk']
      rw [e1]
      have := hv.far hfar (hob ▸ own_own_ne hv hown.2 (by decide))
      exact OwnB.mono this hbase
    · have e1 : (m'.set k (v', (m'.getD k (undef, 0, [], 0)).2)).getD j (undef, 0, [], 0) = m'.getD j (undef, 0, [], 0) := by
        have : k ≠ j := fun q => e q.symm
        simp [List.getD, this]
      rw [e1]
      have h3 := (h.2.2.2.1 j (by omega) hjm).up hup
      exact h3.far hfar (hob ▸ own_own_ne h3 hown.2 (by decide))
  · intro i j hij hj hjm
    have hk' : k < m'.length := by omega
    have e1 : (m'.set k (v', (m'.getD k (undef, 0, [], 0)).2)).getD i (undef, 0, [], 0) = m'.getD i (undef, 0, [], 0) := by
      have : k ≠ i := by omega
      simp [List.getD, this]
    rw [e1]
    by_cases e : j = k
    · subst e
      have e2 : (m'.set j (v', (m'.getD j (undef, 0, [], 0)).2)).getD j (undef, 0, [], 0) = (v', (m'.getD j (undef, 0, [], 0)).2) := by simp [List.getD, hk']
      rw [e2]
      exact apart_new (h.2.2.2.1 i (by omega) (by omega)) hv
    · have e2 : (m'.set k (v', (m'.getD k (undef, 0, [], 0)).2)).getD j (undef, 0, [], 0) = m'.getD j (undef, 0, [], 0) := by
        have : k ≠ j := fun q => e q.symm
        simp [List.getD, this]
      rw [e2]
      exact h.2.2.2.2 i j hij (by omega) hjm
set_option maxHeartbeats 2000000 in
theorem copied_anyG (s : St) (v : Value) (w : World) (hv : StW w v s) (hl1 : s.files.length ≤ 256) (hl2 : s.names.length ≤ 256) (hl3 : s.safe.length ≤ 256) :
    Calls Tryz.prog 103 #[v] w fun e w' => ∃ v', e = .returned v' ∧ OwnV w' w.heap.size v' s ∧ Below w.heap.size w w' := by
  obtain ⟨vf, vn, vs, rfl, hf, hn, hs, hic, hin⟩ := hv
  obtain ⟨m, hm, hR, hO⟩ := hf
  have HM : Hid (m.map (·.2) = s.files ∧ Rws 3 w vf (m.map frow) ∧ (∀ y ∈ m, Octs w y.1 y.2.2.1 ∧ y.2.2.1.length ≤ 140737488355328 ∧ In64 y.2.1 ∧ In64 y.2.2.2) ∧ NamesW w vn s.names ∧ NamesW w vs s.safe ∧ In64 s.cap ∧ In64 s.next) := ⟨hm, hR, hO, hn, hs, hic, hin⟩
  have hml : m.length ≤ 256 := by
    have := congrArg List.length hm
    rw [List.length_map] at this
    omega
  clear hm hR hO hn hs hic hin
  obtain ⟨B, hB⟩ : ∃ B, B = w.heap.size := ⟨_, rfl⟩
  obtain ⟨wx, hwx⟩ : ∃ wx, wx = (w.alloc (.cells #[.int .i64 s.cap, vf, vn, vs, .int .i64 s.next] 35)).alloc (.cells #[.int .i64 0, .slice none 0 0, .slice none 0 0, .slice none 0 0, .int .i64 0] 35) := ⟨_, rfl⟩
  have HX : Hid ((w.alloc (.cells #[.int .i64 s.cap, vf, vn, vs, .int .i64 s.next] 35)).alloc (.cells #[.int .i64 0, .slice none 0 0, .slice none 0 0, .slice none 0 0, .int .i64 0] 35) = wx) := hwx.symm
  have hb1 : wx.heap[B]? = some (.cells #[.int .i64 s.cap, vf, vn, vs, .int .i64 s.next] 35) := by
    rw [hwx, hB]
    exact blk_up (blk_new w _) (up_al (Below.refl _ _) _)
  have hb2 : wx.heap[B + 1]? = some (.cells #[.int .i64 0, .slice none 0 0, .slice none 0 0, .slice none 0 0, .int .i64 0] 35) := by
    rw [hwx, hB]
    have := blk_new (w.alloc (.cells #[.int .i64 s.cap, vf, vn, vs, .int .i64 s.next] 35)) (.cells #[.int .i64 0, .slice none 0 0, .slice none 0 0, .slice none 0 0, .int .i64 0] 35)
    simpa using this
  have H1 : Hid (wx.heap[B]? = some (.cells #[.int .i64 s.cap, vf, vn, vs, .int .i64 s.next] 35)) := hb1
  have H2 : Hid (wx.heap[B + 1]? = some (.cells #[.int .i64 0, .slice none 0 0, .slice none 0 0, .slice none 0 0, .int .i64 0] 35)) := hb2
  have up : Hid (Below w.heap.size w wx) := by rw [hwx]; exact up_al (up_al (Below.refl _ _) _) _
  have HB : Hid (B = w.heap.size) := hB
  clear hwx hb1 hb2
  go_enter Tryz.func103, Tryz.ntmps103
  go_upto_region 1 with fail
  rw [HX.out, ← hB]
  clear HX hB
  have q2 := blk_cell H1.out 2 _ rfl
  go_wp2_with fail
  refine (freshN_any s.names vn wx (HM.out.2.2.2.1.up up.out) (by omega)).mono ?_
  rintro e w1 ⟨vn', rfl, on1, u1⟩
  obtain ⟨an, cn, rfl, _, _⟩ := (NamesW.own on1).len
  have ON1 : Hid (OwnN w1 w.heap.size 146 (.slice an s.names.length cn) s.names) := on1.mono up.out.size
  have up1 : Hid (Below w.heap.size w w1) := up_trans up.out u1
  have A1 : Hid (w1.heap[B]? = some (.cells #[.int .i64 s.cap, vf, vn, vs, .int .i64 s.next] 35)) := blk_up H1.out u1
  have A2 : Hid (w1.heap[B + 1]? = some (.cells #[.int .i64 0, .slice none 0 0, .slice none 0 0, .slice none 0 0, .int .i64 0] 35)) := blk_up H2.out u1
  clear on1 u1 q2 up H1 H2
  have q2 := blk_cell A1.out 2 _ rfl
  have f2 := blk_frozen A1.out 2
  go_upto_region 2 with fail
  obtain ⟨y1, hy1⟩ : ∃ y1, y1 = w1.setCell ⟨B, 2, none⟩ (.slice an s.names.length cn) := ⟨_, rfl⟩
  have G1 : Hid (w1.grownBy y1 (some B)) := by rw [hy1]; exact grown_set _ _ _
  have C1 : Hid (y1.heap[B]? = some (.cells #[.int .i64 s.cap, vf, .slice an s.names.length cn, vs, .int .i64 s.next] 35)) := by rw [hy1]; exact blk_set A1.out 2 _
  have C2 : Hid (y1.heap[B + 1]? = some (.cells #[.int .i64 0, .slice none 0 0, .slice none 0 0, .slice none 0 0, .int .i64 0] 35)) := blk_grown A2.out G1.out (by simp)
  have PN1 : Hid (OwnN y1 w.heap.size 146 (.slice an s.names.length cn) s.names) := ON1.out.far G1.out (own_blk_ne ON1.out.2.2 A1.out (by decide))
  have upy1 : Hid (Below w.heap.size w y1) := up1.out.grown G1.out up1.out.size (fun k hk => by injection hk with hk; rw [← hk, HB.out]; exact Nat.le_refl _)
  rw [← hy1]
  clear hy1 q2 f2 ON1 A1 A2 G1 up1
  have q3 := blk_cell C1.out 3 _ rfl
  go_wp2_with fail
  refine (freshN_any s.safe vs y1 (HM.out.2.2.2.2.1.up upy1.out) (by omega)).mono ?_
  rintro e w2 ⟨vs', rfl, on2, u2⟩
  obtain ⟨as', cs', rfl, _, _⟩ := (NamesW.own on2).len
  have HA : Hid (Apart (.slice an s.names.length cn) (.slice as' s.safe.length cs')) := apart_new PN1.out.2.2 on2.2.2
  have ON2 : Hid (OwnN w2 w.heap.size 146 (.slice as' s.safe.length cs') s.safe) := on2.mono upy1.out.size
  have ON1 : Hid (OwnN w2 w.heap.size 146 (.slice an s.names.length cn) s.names) := PN1.out.up u2
  have up2 : Hid (Below w.heap.size w w2) := up_trans upy1.out u2
  have A1 : Hid (w2.heap[B]? = some (.cells #[.int .i64 s.cap, vf, .slice an s.names.length cn, vs, .int .i64 s.next] 35)) := blk_up C1.out u2
  have A2 : Hid (w2.heap[B + 1]? = some (.cells #[.int .i64 0, .slice none 0 0, .slice none 0 0, .slice none 0 0, .int .i64 0] 35)) := blk_up C2.out u2
  clear on2 u2 q3 upy1 C1 C2 PN1
  have q3 := blk_cell A1.out 3 _ rfl
  have f3 := blk_frozen A1.out 3
  go_upto_region 3 with fail
  obtain ⟨y2, hy2⟩ : ∃ y2, y2 = w2.setCell ⟨B, 3, none⟩ (.slice as' s.safe.length cs') := ⟨_, rfl⟩
  have G2 : Hid (w2.grownBy y2 (some B)) := by rw [hy2]; exact grown_set _ _ _
  have C1 : Hid (y2.heap[B]? = some (.cells #[.int .i64 s.cap, vf, .slice an s.names.length cn, .slice as' s.safe.length cs', .int .i64 s.next] 35)) := by rw [hy2]; exact blk_set A1.out 3 _
  have C2 : Hid (y2.heap[B + 1]? = some (.cells #[.int .i64 0, .slice none 0 0, .slice none 0 0, .slice none 0 0, .int .i64 0] 35)) := blk_grown A2.out G2.out (by simp)
  have PN1 : Hid (OwnN y2 w.heap.size 146 (.slice an s.names.length cn) s.names) := ON1.out.far G2.out (own_blk_ne ON1.out.2.2 A1.out (by decide))
  have PN2 : Hid (OwnN y2 w.heap.size 146 (.slice as' s.safe.length cs') s.safe) := ON2.out.far G2.out (own_blk_ne ON2.out.2.2 A1.out (by decide))
  have upy2 : Hid (Below w.heap.size w y2) := up2.out.grown G2.out up2.out.size (fun k hk => by injection hk with hk; rw [← hk, HB.out]; exact Nat.le_refl _)
  rw [← hy2]
  clear hy2 q3 f3 ON1 ON2 A1 A2 G2 up2
  have q1 := blk_cell C1.out 1 _ rfl
  go_wp2_with fail
  refine (freshF_any m vf y2 (HM.out.2.1.up upy2.out) (fun y hy => (HM.out.2.2.1 y hy).1.up upy2.out) (by omega)).mono ?_
  rintro e w3 ⟨vf', rfl, of3, u3⟩
  obtain ⟨af, cf, rfl, _, _⟩ := (Rws.own of3).len
  rw [List.length_map] at of3 ⊢
  have OF3 : Hid (OwnR w3 w.heap.size 110 3 (.slice af m.length cf) (m.map frow)) := of3.mono upy2.out.size
  have ON1 : Hid (OwnN w3 w.heap.size 146 (.slice an s.names.length cn) s.names) := PN1.out.up u3
  have ON2 : Hid (OwnN w3 w.heap.size 146 (.slice as' s.safe.length cs') s.safe) := PN2.out.up u3
  have up3 : Hid (Below w.heap.size w w3) := up_trans upy2.out u3
  have A1 : Hid (w3.heap[B]? = some (.cells #[.int .i64 s.cap, vf, .slice an s.names.length cn, .slice as' s.safe.length cs', .int .i64 s.next] 35)) := blk_up C1.out u3
  have A2 : Hid (w3.heap[B + 1]? = some (.cells #[.int .i64 0, .slice none 0 0, .slice none 0 0, .slice none 0 0, .int .i64 0] 35)) := blk_up C2.out u3
  clear of3 u3 q1 upy2 C1 C2 PN1 PN2
  have q1 := blk_cell A1.out 1 _ rfl
  have f1 := blk_frozen A1.out 1
  go_upto_region 4 with fail
  obtain ⟨y3, hy3⟩ : ∃ y3, y3 = w3.setCell ⟨B, 1, none⟩ (.slice af m.length cf) := ⟨_, rfl⟩
  have G3 : Hid (w3.grownBy y3 (some B)) := by rw [hy3]; exact grown_set _ _ _
  have C1 : Hid (y3.heap[B]? = some (.cells #[.int .i64 s.cap, .slice af m.length cf, .slice an s.names.length cn, .slice as' s.safe.length cs', .int .i64 s.next] 35)) := by rw [hy3]; exact blk_set A1.out 1 _
  have C2 : Hid (y3.heap[B + 1]? = some (.cells #[.int .i64 0, .slice none 0 0, .slice none 0 0, .slice none 0 0, .int .i64 0] 35)) := blk_grown A2.out G3.out (by simp)
  have PN1 : Hid (OwnN y3 w.heap.size 146 (.slice an s.names.length cn) s.names) := ON1.out.far G3.out (own_blk_ne ON1.out.2.2 A1.out (by decide))
  have PN2 : Hid (OwnN y3 w.heap.size 146 (.slice as' s.safe.length cs') s.safe) := ON2.out.far G3.out (own_blk_ne ON2.out.2.2 A1.out (by decide))
  have PF : Hid (OwnR y3 w.heap.size 110 3 (.slice af m.length cf) (m.map frow)) := OF3.out.far G3.out (own_blk_ne OF3.out.2 A1.out (by decide))
  have upy3 : Hid (Below w.heap.size w y3) := up3.out.grown G3.out up3.out.size (fun k hk => by injection hk with hk; rw [← hk, HB.out]; exact Nat.le_refl _)
  rw [← hy3]
  clear hy3 q1 f1 ON1 ON2 OF3 A1 A2 G3 up3
  have q1 := blk_cell C1.out 1 _ rfl
  go_wp2_with fail
  clear q1
  go_loopw [19] (fun i wr => ∃ (k : Nat) (m' : List FRow), k ≤ m.length ∧ i = .int .i64 k ∧ Hid (Half wr w.heap.size (.slice af m.length cf) m m' k) ∧ Hid (wr.heap[B]? = some (.cells #[.int .i64 s.cap, .slice af m.length cf, .slice an s.names.length cn, .slice as' s.safe.length cs', .int .i64 s.next] 35)) ∧
      Hid (wr.heap[B + 1]? = some (.cells #[.int .i64 0, .slice none 0 0, .slice none 0 0, .slice none 0 0, .int .i64 0] 35)) ∧ Hid (OwnN wr w.heap.size 146 (.slice an s.names.length cn) s.names) ∧ Hid (OwnN wr w.heap.size 146 (.slice as' s.safe.length cs') s.safe) ∧ Hid (Below w.heap.size w wr)) (fun i _ => m.length - (intOf i).toNat)
  case atStart => exact ⟨0, m, Nat.zero_le _, rfl, ⟨rfl, fun _ _ _ => rfl, PF.out, fun j hj => by omega, fun i j _ hj => by omega⟩, C1, C2, PN1, PN2, upy3⟩
  case round =>
    clear C1 C2 PN1 PN2 PF upy3
    obtain ⟨k, m', hk, rfl, HH, A1, A2, ON1, ON2, up⟩ := hrel
    by_cases hlt : k < m.length
    · have hlt' : (k : Int) < (m.length : Int) := by omega
      have hml' := half_len HH.out
      have q1 := blk_cell A1.out 1 _ rfl
      have HK : Hid (m'.getD k (undef, 0, [], 0) = m.getD k (undef, 0, [], 0)) := HH.out.2.1 k (Nat.le_refl _) hlt
      have HO : Hid (Octs w (m.getD k (undef, 0, [], 0)).1 (m.getD k (undef, 0, [], 0)).2.2.1 ∧ (m.getD k (undef, 0, [], 0)).2.2.1.length ≤ 140737488355328) := by
        have hmem : m.getD k (undef, 0, [], 0) ∈ m := by simp [List.getD, hlt]
        have := HM.out.2.2.1 _ hmem
        exact ⟨this.1, this.2.1⟩
      rw [← HK.out] at HO
      obtain ⟨g, off, cap', e, _, _, hc⟩ := (Rws.own HH.out.2.2.1).at k (by rw [List.length_map]; omega)
      rw [List.length_map, hml'] at e
      have hog : off = 0 := by
        rcases HH.out.2.2.1.2.2 with ⟨e2, _⟩ | ⟨g2, cap2, cur2, e2, _⟩
        · rw [e2] at e; simp at e
        · rw [e2] at e; simp at e; exact e.1.2.symm
      subst hog
      simp at e
      obtain ⟨rfl, rfl⟩ := e
      have hrow : (m'.map frow).getD k [] = frow (m'.getD k (undef, 0, [], 0)) := by
        have : k < m'.length := by omega
        simp [List.getD, this]
      rw [hrow] at hc
      have c1 := hc 1 _ rfl
      rw [Nat.zero_add] at c1
      obtain ⟨au, cu, eu, _⟩ := HO.out.1.slice
      rw [eu] at c1
      have st := fun u => OwnR.set HH.out.2.2.1 (by rw [List.length_map]; exact hml') k hlt 1 (by decide) u
      have fz := (st undef).2.2
      have HC : Hid (∀ W, Below wr.heap.size wr W → Calls Tryz.prog 88 #[.slice au (m'.getD k (undef, 0, [], 0)).2.2.1.length cu] W fun e w' => ∃ a2 c2, e = .returned (.slice a2 (m'.getD k (undef, 0, [], 0)).2.2.1.length c2) ∧ w'.cell? ⟨B, 1, none⟩ = some (.slice (some ⟨g, 0, none⟩) m.length cf) ∧
          w'.cell? ⟨g, k * 3 + 1, none⟩ = some (.slice au (m'.getD k (undef, 0, [], 0)).2.2.1.length cu) ∧ w'.frozen? ⟨g, k * 3 + 1, none⟩ = false ∧ Hid (OwnB w' wr.heap.size (.slice a2 (m'.getD k (undef, 0, [], 0)).2.2.1.length c2) (m'.getD k (undef, 0, [], 0)).2.2.1) ∧ Hid (Below wr.heap.size wr w')) := by
        intro W hW
        have ho := HO.out.1.up (up_trans up.out hW)
        rw [eu] at ho
        refine (freshB_any _ _ W ho HO.out.2).mono ?_
        rintro e w' ⟨v', rfl, ob, ub⟩
        obtain ⟨a2, c2, rfl, _⟩ := (Octs.own ob ho.1).slice
        have hW2 := up_trans hW ub
        refine ⟨a2, c2, rfl, ?_, ?_, ?_, OwnB.mono ob hW.size, hW2⟩
        · exact (hW2.cell (World.block_lt_of_cell? wr _ q1)).trans q1
        · exact (hW2.cell (World.block_lt_of_cell? wr _ c1)).trans c1
        · exact (hW2.frozen (p := ⟨g, k * 3 + 1, none⟩) (World.block_lt_of_cell? wr _ c1)).trans fz
      have HF : Hid (∀ w' v', Below wr.heap.size wr w' → OwnB w' wr.heap.size v' (m'.getD k (undef, 0, [], 0)).2.2.1 → ∃ m2, Hid (Half (w'.setCell ⟨g, k * 3 + 1, none⟩ v') w.heap.size (.slice (some ⟨g, 0, none⟩) m.length cf) m m2 (k + 1)) ∧
          Hid ((w'.setCell ⟨g, k * 3 + 1, none⟩ v').heap[B]? = some (.cells #[.int .i64 s.cap, .slice (some ⟨g, 0, none⟩) m.length cf, .slice an s.names.length cn, .slice as' s.safe.length cs', .int .i64 s.next] 35)) ∧
          Hid ((w'.setCell ⟨g, k * 3 + 1, none⟩ v').heap[B + 1]? = some (.cells #[.int .i64 0, .slice none 0 0, .slice none 0 0, .slice none 0 0, .int .i64 0] 35)) ∧
          Hid (OwnN (w'.setCell ⟨g, k * 3 + 1, none⟩ v') w.heap.size 146 (.slice an s.names.length cn) s.names) ∧ Hid (OwnN (w'.setCell ⟨g, k * 3 + 1, none⟩ v') w.heap.size 146 (.slice as' s.safe.length cs') s.safe) ∧ Hid (Below w.heap.size w (w'.setCell ⟨g, k * 3 + 1, none⟩ v'))) := by
        intro w' v' ub ob
        have hR := HH.out.2.2.1.up ub
        have hg := hR.2.lt g rfl
        have g1 := grown_set w' ⟨g, k * 3 + 1, none⟩ v'
        have o1 := ON1.out.up ub
        have o2 := ON2.out.up ub
        have a1 := blk_up A1.out ub
        have a2 := blk_up A2.out ub
        have n1 : some B ≠ some g := by
          have := own_blk_ne hR.2 a1 (by decide)
          simp [Value.ownBlock] at this
          intro q
          injection q with q
          exact this q.symm
        have n2 : some (B + 1) ≠ some g := by
          have := own_blk_ne hR.2 a2 (by decide)
          simp [Value.ownBlock] at this
          intro q
          injection q with q
          exact this q.symm
        refine ⟨_, Half.set HH.out hlt ub ob up.out.size rfl rfl, blk_grown a1 g1 n1, blk_grown a2 g1 n2, o1.far g1 (own_own_ne o1.2.2 hR.2 (by decide)), o2.far g1 (own_own_ne o2.2.2 hR.2 (by decide)), ?_⟩
        exact (up_trans up.out ub).grown g1 (Nat.le_trans up.out.size ub.size) (fun j hj => by injection hj with hj; rw [← hj]; exact hg.1)
      clear hc hrow st
      generalize hd : (m'.getD k (undef, 0, [], 0)).2.2.1 = d at *
      clear hd
      go_wp2_with fail
      go_region_with ((go_at_call 88; refine (HC.out _ (up_dr (Below.refl _ _))).mono ?_; rintro e w' ⟨a2, c2, rfl, z1, z2, z3, ob, ub⟩))
      all_goals
        obtain ⟨m2, r1, r2, r3, r4, r5, r6⟩ := HF.out w' _ ub.out ob.out
        clear z1 z2 z3
        go_wp2_with fail
        exact ⟨⟨k + 1, m2, by omega, by go_num, r1, r2, r3, r4, r5, r6⟩, by simp [intOf]; omega⟩
    · have hlt' : ¬ (k : Int) < (m.length : Int) := by omega
      obtain rfl : k = m.length := by omega
      have q0 := blk_cell A1.out 0 _ rfl
      have q1 := blk_cell A1.out 1 _ rfl
      have q2 := blk_cell A1.out 2 _ rfl
      have q3 := blk_cell A1.out 3 _ rfl
      have q4 := blk_cell A1.out 4 _ rfl
      have x0 := blk_cell A2.out 0 _ rfl
      have x1 := blk_cell A2.out 1 _ rfl
      have x2 := blk_cell A2.out 2 _ rfl
      have x3 := blk_cell A2.out 3 _ rfl
      have x4 := blk_cell A2.out 4 _ rfl
      have f0 := blk_frozen A2.out 0
      have f1 := blk_frozen A2.out 1
      have f2 := blk_frozen A2.out 2
      have f3 := blk_frozen A2.out 3
      have f4 := blk_frozen A2.out 4
      have HD : Hid (OwnF wr w.heap.size (.slice af m.length cf) m' ∧ m'.map (·.2) = m.map (·.2)) := half_done HH.out (fun y hy => by
        have := HM.out.2.2.1 y hy
        exact ⟨this.1.1, this.2⟩)
      go_wp2_with fail
      have g5 := set5_grown wr (B + 1) (.int .i64 s.cap) (.slice af m.length cf) (.slice an s.names.length cn) (.slice as' s.safe.length cs') (.int .i64 s.next)
      have b5 := set5_blk A2.out (.int .i64 s.cap) (.slice af m.length cf) (.slice an s.names.length cn) (.slice as' s.safe.length cs') (.int .i64 s.next)
      refine bodyPost_ret (results_state rfl _ _ rfl b5) rfl ?_
      refine ⟨_, rfl, ⟨_, _, _, m', rfl, HD.out.2.trans HM.out.1, ?_, ?_, ?_, HA.out, HM.out.2.2.2.2.2.1, HM.out.2.2.2.2.2.2⟩, ?_⟩
      · exact HD.out.1.far g5 (own_blk_ne HD.out.1.1.2 A2.out (by decide)) (fun y hy => own_blk_ne (HD.out.1.2.1 y hy).1 A2.out (by decide))
      · exact ON1.out.far g5 (own_blk_ne ON1.out.2.2 A2.out (by decide))
      · exact ON2.out.far g5 (own_blk_ne ON2.out.2.2 A2.out (by decide))
      · exact up.out.grown g5 up.out.size (fun j hj => by injection hj with hj; rw [← hj, HB.out]; omega)
end Go.Proofs.YtnchjlimkgbfpaaGreatDoor

namespace Go.Proofs.YtnchjlimkgbfpaaGreatDoor
open Go.RowKit
set_option linter.unusedVariables false
set_option maxRecDepth 20000
def over (l : List Value) (o : Nat) (vs : List Value) : List Value := l.take o ++ vs ++ l.drop (o + vs.length)
theorem over_len (l : List Value) (o : Nat) (vs : List Value) (h : o + vs.length ≤ l.length) : (over l o vs).length = l.length := by
  simp only [over, List.length_append, List.length_take, List.length_drop]
  omega
theorem over_nil (l : List Value) (o : Nat) : over l o [] = l := by simp [over]
theorem over_cons (l : List Value) (o : Nat) (v : Value) (vs : List Value) (h : o + (vs.length + 1) ≤ l.length) : over (l.set o v) (o + 1) vs = over l o (v :: vs) := by
  unfold over
  have := list_seg_step l o v vs h
  simpa [List.length_cons] using this
theorem over_take (l : List Value) (o : Nat) (vs : List Value) (k : Nat) (hk : k ≤ o) (ho : o ≤ l.length) : (over l o vs).take k = l.take k := by
  unfold over
  rw [List.append_assoc, List.take_append_of_le_length (by rw [List.length_take]; omega), List.take_take]
  congr 1
  omega
theorem blk_setCells {g : Nat} {t : TypeId} {fr : Nat × Nat} : ∀ (vs : List Value) (o : Nat) (cur : Array Value) (w : World), w.heap[g]? = some (.cells cur t fr) → o + vs.length ≤ cur.size →
    (w.setCells g o vs).heap[g]? = some (.cells (over cur.toList o vs).toArray t fr) ∧ w.grownBy (w.setCells g o vs) (some g)
  | [], o, cur, w, h, _ => by
    rw [over_nil]
    exact ⟨by simpa [World.setCells] using h, grown_refl _ _⟩
  | v :: vs, o, cur, w, h, hl => by
    have hl' : o + 1 + vs.length ≤ (cur.setIfInBounds o v).size := by simp at hl ⊢; omega
    have ih := blk_setCells vs (o + 1) (cur.setIfInBounds o v) (w.setCell ⟨g, o, none⟩ v) (blk_set h o v) hl'
    rw [World.setCells]
    refine ⟨?_, grown_trans (grown_set w ⟨g, o, none⟩ v) ih.2⟩
    rw [ih.1, Array.toList_setIfInBounds, over_cons _ _ _ _ (by simp at hl ⊢; omega)]
theorem blk_setRow {w : World} {g : Nat} {cur : Array Value} {t : TypeId} {fr : Nat × Nat} (h : w.heap[g]? = some (.cells cur t fr)) (cs : Array Value) : (w.setRow g cs).heap[g]? = some (.cells cs t fr) ∧ w.grownBy (w.setRow g cs) (some g) := by
  refine ⟨?_, rfl, rfl, rfl, by simp [World.setRow], ?_⟩
  · simp only [World.setRow, Array.getElem?_modify, h]
    simp
  · intro k hk hne
    simp only [World.setRow, Array.getElem?_modify]
    rw [if_neg (by intro e; exact hne (by rw [e]))]
theorem run_copy_rows (w : World) (dT sT ty elem : TypeId) (sz : Nat) (g o dLen dCap : Nat) (a : Addr) (sLen sCap : Nat) (cur : Array Value) (t : TypeId) (cs : List Value)
    (hu : Tryz.prog.underlying dT = some (.slice elem)) (hs : (Tryz.prog.info? elem).map (·.size) = some sz)
    (hg : w.heap[g]? = some (.cells cur t (0, 0))) (hn : cs.length = Nat.min sLen dLen * sz)
    (hsrc : ∀ j v, cs[j]? = some v → w.cell? (a.add j) = some v) (hfit : o + cs.length ≤ cur.size) (h1 : ∀ v ∈ cs, v.oneCell' = true) :
    (Builtin.copy_ #[dT, sT] ty #[.slice (some ⟨g, o, none⟩) dLen dCap, .slice (some a) sLen sCap]).run Tryz.prog w =
      .ok (goInt (Nat.min sLen dLen)) (w.setRow g (over cur.toList o cs).toArray) := by
  have hl := run_loadCells_list (P := Tryz.prog) w a cs hsrc
  have hst := run_storeCells_at Tryz.prog g o t cs 0 cur w hg (by simpa using hfit) h1
  simp only [Nat.add_zero] at hst
  cases hq : Tryz.prog.info? elem with
  | none => simp [hq] at hs
  | some i =>
    have hi : i.size = sz := by simpa [hq] using hs
    unfold over
    simp [Builtin.copy_, run_underlying hu, Builtin.lenOf, Builtin.firstCells, sizeOf, typeInfo, hq, hi, ← hn, hl, hst]
theorem run_clear_rows (w : World) (t e ty : TypeId) (z : Value) (ht : Tryz.prog.underlying t = some (.slice e)) (hv : ∀ w, (zeroValue e).run Tryz.prog w = .ok z w) (h1 : ∀ v ∈ z.cells.toList, v.oneCell' = true) (g o n c : Nat) (hn : 0 < n)
    (cur : Array Value) (hg : w.heap[g]? = some (.cells cur e (0, 0))) (hfit : o + n * z.cells.size ≤ cur.size) :
    (Builtin.clear_ #[t] ty #[.slice (some ⟨g, o, none⟩) n c]).run Tryz.prog w = .ok (.tuple #[]) (w.setRow g (over cur.toList o (Builtin.zeroCells z.cells n).toList).toArray) := by
  have hsz : (Builtin.zeroCells z.cells n).toList.length = n * z.cells.size := by simp [Builtin.zeroCells]
  have hone : ∀ v ∈ (Builtin.zeroCells z.cells n).toList, v.oneCell' = true := by
    intro v hv'
    simp only [Builtin.zeroCells, Array.toList_map, List.mem_map] at hv'
    obtain ⟨i, hi, rfl⟩ := hv'
    have hi' : i < n * z.cells.size := by simpa using hi
    have hpos : 0 < z.cells.size := by
      rcases Nat.eq_zero_or_pos z.cells.size with q | q
      · rw [q] at hi'; simp at hi'
      · exact q
    have hm : i % z.cells.size < z.cells.size := Nat.mod_lt _ hpos
    rw [getElem!_pos z.cells _ hm]
    exact h1 _ (by simp)
  have hst := run_storeCells_at Tryz.prog g o e (Builtin.zeroCells z.cells n).toList 0 cur w hg (by rw [hsz]; simpa using hfit) hone
  simp only [Nat.add_zero] at hst
  obtain ⟨m, rfl⟩ : ∃ m, n = m + 1 := ⟨n - 1, by omega⟩
  unfold over
  simp only [Builtin.clear_]
  simp [run_underlying ht, hv, hst]
theorem OwnR.blk {w : World} {base : Nat} {e : TypeId} {sz g n cap : Nat} {css : List (List Value)} (h : OwnR w base e sz (.slice (some ⟨g, 0, none⟩) n cap) css) :
    ∃ cur, w.heap[g]? = some (.cells cur e (0, 0)) ∧ base ≤ g ∧ n ≤ cap ∧ cap ≤ maxLen ∧ cur.size = cap * sz ∧ cur.toList.take (n * sz) = css.flatten ∧ css.length = n := by
  obtain ⟨hx, hl, h2⟩ := h
  rcases h2 with ⟨e1, _⟩ | ⟨g', cap', cur, e1, hb, hh, hn, hm, hs, ht⟩
  · simp at e1
  · simp at e1
    obtain ⟨rfl, rfl, rfl⟩ := e1
    exact ⟨cur, hh, hb, hn, hm, hs, ht, rfl⟩
theorem own_of_blk {w : World} {base : Nat} {e : TypeId} {sz g n cap : Nat} {css : List (List Value)} {cur : Array Value} (hx : ∀ cs ∈ css, cs.length = sz) (hh : w.heap[g]? = some (.cells cur e (0, 0))) (hb : base ≤ g) (hn : n ≤ cap) (hm : cap ≤ maxLen) (hs : cur.size = cap * sz)
    (ht : cur.toList.take (n * sz) = css.flatten) (hl : css.length = n) : OwnR w base e sz (.slice (some ⟨g, 0, none⟩) n cap) css := by
  subst hl
  refine ⟨hx, flat_rows css hx, .inr ⟨g, cap, cur, rfl, hb, hh, hn, hm, hs, ht⟩⟩
theorem flat_take {sz : Nat} : ∀ (css : List (List Value)) (_ : ∀ cs ∈ css, cs.length = sz) (k : Nat), css.flatten.take (k * sz) = (css.take k).flatten
  | [], _, k => by simp
  | c :: css, hx, 0 => by simp
  | c :: css, hx, k + 1 => by
    have hc := hx c (by simp)
    rw [List.flatten_cons, List.take_succ_cons, List.flatten_cons, ← flat_take css (fun d hd => hx d (by simp [hd])) k, List.take_append, hc, Nat.add_mul, Nat.one_mul, Nat.add_sub_cancel, List.take_of_length_le (by omega)]
theorem flat_drop {sz : Nat} (css : List (List Value)) (hx : ∀ cs ∈ css, cs.length = sz) (k : Nat) : css.flatten.drop (k * sz) = (css.drop k).flatten := by
  have h1 := flat_take css hx k
  have h2 : css.flatten = (css.take k).flatten ++ (css.drop k).flatten := by rw [← List.flatten_append, List.take_append_drop]
  rcases Nat.lt_or_ge k css.length with c | c
  · have h3 : (css.take k).flatten.length = k * sz := by
      rw [flat_rows _ (fun d hd => hx d (List.mem_of_mem_take hd)), List.length_take]
      congr 1
      omega
    rw [h2, List.drop_append_of_le_length (by omega), List.drop_of_length_le (by omega), List.nil_append]
  · rw [List.drop_of_length_le (by rw [flat_rows css hx]; exact Nat.mul_le_mul_right _ c), List.drop_of_length_le c]
    rfl
theorem OwnR.firstOver {w w' : World} {base : Nat} {e : TypeId} {sz g n cap : Nat} {css : List (List Value)} (h : OwnR w base e sz (.slice (some ⟨g, 0, none⟩) n cap) css) (k : Nat) (hk : k ≤ n) (cur : Array Value) (hc : w.heap[g]? = some (.cells cur e (0, 0))) (vs : List Value) (hfit : k * sz + vs.length ≤ cur.size)
    (hw : w'.heap[g]? = some (.cells (over cur.toList (k * sz) vs).toArray e (0, 0))) : OwnR w' base e sz (.slice (some ⟨g, 0, none⟩) k cap) (css.take k) := by
  obtain ⟨cur', hh, hb, hn, hm, hs, ht, hl⟩ := h.blk
  rw [hc] at hh
  simp at hh
  subst hh
  refine own_of_blk (fun cs hcs => h.1 cs (List.mem_of_mem_take hcs)) hw hb (by omega) hm ?_ ?_ (by rw [List.length_take]; omega)
  · have := over_len cur.toList (k * sz) vs (by simpa using hfit)
    simpa [hs] using this
  · have e1 : (over cur.toList (k * sz) vs).toArray.toList = over cur.toList (k * sz) vs := by simp
    rw [e1, over_take _ _ _ _ (Nat.le_refl _) (by simp; omega), ← flat_take css h.1 k, ← ht, List.take_take]
    congr 1
    have : k * sz ≤ n * sz := Nat.mul_le_mul_right _ hk
    omega
end Go.Proofs.YtnchjlimkgbfpaaGreatDoor
