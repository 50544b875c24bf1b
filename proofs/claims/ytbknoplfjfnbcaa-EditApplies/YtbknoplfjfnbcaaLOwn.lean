/- EditOwn: the version that follows shares nothing with what was handed in. -/
import Derived.Test.YtbknoplfjfnbcaaLApart
import Derived.Test.YtbknoplfjfnbcaaRApp
namespace Go.Proofs.Ytbknoplfjfnbcaa
open Go.RowKit
set_option linter.unusedVariables false
set_option linter.unusedSimpArgs false

theorem up_set1 {w W : World} {N i : Nat} {u : Value} (h : Below w.heap.size w W) (hN : w.heap.size ≤ N) : Below w.heap.size w (W.setCell ⟨N, i, none⟩ u) :=
  h.trans (below_grown (grown_set W ⟨N, i, none⟩ u) h.size (fun k hk => by injection hk with hk; simp only at hk; omega))
theorem blk_setn {W : World} {N M i : Nat} {u : Value} {o : Obj} (h : W.heap[M]? = some o) (hne : M ≠ N) : (W.setCell ⟨N, i, none⟩ u).heap[M]? = some o :=
  blk_grown h (grown_set W ⟨N, i, none⟩ u) (by intro q; injection q with q; exact hne q)
/-- A version, and an edit, in blocks of their own. -/
def XBox (w : World) (base N : Nat) (ts : List Me) (s n : Int) : Prop := ∃ a l c, w.heap[N]? = some (.cells #[.slice a l c, .int .i64 s, .int .i64 n] 30) ∧ OwnR w base 65 5 (.slice a l c) (ts.map meRow)
def YBox (w : World) (base N : Nat) (is : List Int) (ms : List Me) (s n : Int) : Prop := ∃ a l c a' l' c', w.heap[N]? = some (.cells #[.slice a l c, .slice a' l' c', .int .i64 s, .int .i64 n] 33) ∧ OwnR w base 3 1 (.slice a l c) (is.map irow) ∧ OwnR w base 65 5 (.slice a' l' c') (ms.map meRow)
theorem twoa (w : World) (o p : Obj) : ((w.alloc o).alloc p).heap[w.heap.size]? = some o := blk_up (blk_new w o) (up_alloc _ _)
theorem twob (w : World) (o p : Obj) : ((w.alloc o).alloc p).heap[w.heap.size + 1]? = some p := by
  have := blk_new (w.alloc o) p
  rw [show (w.alloc o).heap.size = w.heap.size + 1 by simp] at this
  exact this
theorem fin_both {w1 W : World} {base NA NB : Nat} {ts add : List Me} {drop : List Int} {seq next seq2 next2 : Int} {a3 a4 a5 : Option Addr} {n3 c3 n4 c4 n5 c5 : Nat} {p0 p1 p2 q0 q1 q2 q3 : Value}
    (KA : W.heap[NA]? = some (.cells #[p0, p1, p2] 30)) (KB : W.heap[NB]? = some (.cells #[q0, q1, q2, q3] 33)) (hne : NA ≠ NB) (hO : VerO W base a3 n3 c3 ts) (hI : OwnR W base 3 1 (.slice a4 n4 c4) (drop.map irow)) (hM : VerO W base a5 n5 c5 add)
    (hu : Below w1.heap.size w1 W) (hA : w1.heap.size ≤ NA) (hB : w1.heap.size ≤ NB) :
    Hid (XBox (((((((W.setCell ⟨NA, 0, none⟩ (.slice a3 n3 c3)).setCell ⟨NA, 1, none⟩ (.int .i64 seq)).setCell ⟨NA, 2, none⟩ (.int .i64 next)).setCell ⟨NB, 0, none⟩ (.slice a4 n4 c4)).setCell ⟨NB, 1, none⟩ (.slice a5 n5 c5)).setCell ⟨NB, 2, none⟩ (.int .i64 seq2)).setCell ⟨NB, 3, none⟩ (.int .i64 next2)) base NA ts seq next) ∧ Hid (YBox (((((((W.setCell ⟨NA, 0, none⟩ (.slice a3 n3 c3)).setCell ⟨NA, 1, none⟩ (.int .i64 seq)).setCell ⟨NA, 2, none⟩ (.int .i64 next)).setCell ⟨NB, 0, none⟩ (.slice a4 n4 c4)).setCell ⟨NB, 1, none⟩ (.slice a5 n5 c5)).setCell ⟨NB, 2, none⟩ (.int .i64 seq2)).setCell ⟨NB, 3, none⟩ (.int .i64 next2)) base NB drop add seq2 next2) ∧ Hid (Below w1.heap.size w1 (((((((W.setCell ⟨NA, 0, none⟩ (.slice a3 n3 c3)).setCell ⟨NA, 1, none⟩ (.int .i64 seq)).setCell ⟨NA, 2, none⟩ (.int .i64 next)).setCell ⟨NB, 0, none⟩ (.slice a4 n4 c4)).setCell ⟨NB, 1, none⟩ (.slice a5 n5 c5)).setCell ⟨NB, 2, none⟩ (.int .i64 seq2)).setCell ⟨NB, 3, none⟩ (.int .i64 next2))) := by
  obtain ⟨W', hW'⟩ : ∃ W', W' = (((((((W.setCell ⟨NA, 0, none⟩ (.slice a3 n3 c3)).setCell ⟨NA, 1, none⟩ (.int .i64 seq)).setCell ⟨NA, 2, none⟩ (.int .i64 next)).setCell ⟨NB, 0, none⟩ (.slice a4 n4 c4)).setCell ⟨NB, 1, none⟩ (.slice a5 n5 c5)).setCell ⟨NB, 2, none⟩ (.int .i64 seq2)).setCell ⟨NB, 3, none⟩ (.int .i64 next2)) := ⟨_, rfl⟩
  rw [← hW']
  obtain ⟨W3, hW3⟩ : ∃ W3, W3 = ((W.setCell ⟨NA, 0, none⟩ (.slice a3 n3 c3)).setCell ⟨NA, 1, none⟩ (.int .i64 seq)).setCell ⟨NA, 2, none⟩ (.int .i64 next) := ⟨_, rfl⟩
  have g3 : W.grownBy W3 (some NA) := by rw [hW3]; exact set3_grown W NA _ _ _
  have b3 : W3.heap[NA]? = some (.cells #[.slice a3 n3 c3, .int .i64 seq, .int .i64 next] 30) := by rw [hW3]; exact set3_blk KA _ _ _
  have KB3 : W3.heap[NB]? = some (.cells #[q0, q1, q2, q3] 33) := blk_grown KB g3 (by intro q; injection q with q; exact hne q.symm)
  have hO3 : OwnR W3 base 65 5 (.slice a3 n3 c3) (ts.map meRow) := OwnR.far hO g3 (own_blk_ne hO.2 KA (by decide))
  have hI3 : OwnR W3 base 3 1 (.slice a4 n4 c4) (drop.map irow) := OwnR.far hI g3 (own_blk_ne hI.2 KA (by decide))
  have hM3 : OwnR W3 base 65 5 (.slice a5 n5 c5) (add.map meRow) := OwnR.far hM g3 (own_blk_ne hM.2 KA (by decide))
  have u3 : Below w1.heap.size w1 W3 := hu.trans (below_grown g3 hu.size (fun k hk => by injection hk with hk; omega))
  have e' : W' = (((W3.setCell ⟨NB, 0, none⟩ (.slice a4 n4 c4)).setCell ⟨NB, 1, none⟩ (.slice a5 n5 c5)).setCell ⟨NB, 2, none⟩ (.int .i64 seq2)).setCell ⟨NB, 3, none⟩ (.int .i64 next2) := by rw [hW', hW3]
  have g4 : W3.grownBy W' (some NB) := by rw [e']; exact set4_grown W3 NB _ _ _ _
  have b4 : W'.heap[NB]? = some (.cells #[.slice a4 n4 c4, .slice a5 n5 c5, .int .i64 seq2, .int .i64 next2] 33) := by rw [e']; exact set4_blk KB3 _ _ _ _
  refine ⟨⟨a3, n3, c3, blk_grown b3 g4 (by intro q; injection q with q; exact hne q), OwnR.far hO3 g4 (own_blk_ne hO3.2 KB3 (by decide))⟩, ⟨a4, n4, c4, a5, n5, c5, b4, OwnR.far hI3 g4 (own_blk_ne hI3.2 KB3 (by decide)), OwnR.far hM3 g4 (own_blk_ne hM3.2 KB3 (by decide))⟩, ?_⟩
  exact u3.trans (below_grown g4 u3.size (fun k hk => by injection hk with hk; omega))
theorem fin_edit {w1 W : World} {base NA NB : Nat} {ts add : List Me} {drop : List Int} {seq next seq2 next2 : Int} {a3 a4 a5 : Option Addr} {n3 c3 n4 c4 n5 c5 : Nat} {q0 q1 q2 q3 : Value}
    (KA : W.heap[NA]? = some (.cells #[.slice a3 n3 c3, .int .i64 seq, .int .i64 next] 30)) (KB : W.heap[NB]? = some (.cells #[q0, q1, q2, q3] 33)) (hne : NA ≠ NB) (hO : VerO W base a3 n3 c3 ts) (hI : OwnR W base 3 1 (.slice a4 n4 c4) (drop.map irow)) (hM : VerO W base a5 n5 c5 add)
    (hu : Below w1.heap.size w1 W) (hB : w1.heap.size ≤ NB) :
    Hid (XBox ((((W.setCell ⟨NB, 0, none⟩ (.slice a4 n4 c4)).setCell ⟨NB, 1, none⟩ (.slice a5 n5 c5)).setCell ⟨NB, 2, none⟩ (.int .i64 seq2)).setCell ⟨NB, 3, none⟩ (.int .i64 next2)) base NA ts seq next) ∧ Hid (YBox ((((W.setCell ⟨NB, 0, none⟩ (.slice a4 n4 c4)).setCell ⟨NB, 1, none⟩ (.slice a5 n5 c5)).setCell ⟨NB, 2, none⟩ (.int .i64 seq2)).setCell ⟨NB, 3, none⟩ (.int .i64 next2)) base NB drop add seq2 next2) ∧ Hid (Below w1.heap.size w1 ((((W.setCell ⟨NB, 0, none⟩ (.slice a4 n4 c4)).setCell ⟨NB, 1, none⟩ (.slice a5 n5 c5)).setCell ⟨NB, 2, none⟩ (.int .i64 seq2)).setCell ⟨NB, 3, none⟩ (.int .i64 next2))) := by
  obtain ⟨W', hW'⟩ : ∃ W', W' = ((((W.setCell ⟨NB, 0, none⟩ (.slice a4 n4 c4)).setCell ⟨NB, 1, none⟩ (.slice a5 n5 c5)).setCell ⟨NB, 2, none⟩ (.int .i64 seq2)).setCell ⟨NB, 3, none⟩ (.int .i64 next2)) := ⟨_, rfl⟩
  rw [← hW']
  have g4 : W.grownBy W' (some NB) := by rw [hW']; exact set4_grown W NB _ _ _ _
  have b4 : W'.heap[NB]? = some (.cells #[.slice a4 n4 c4, .slice a5 n5 c5, .int .i64 seq2, .int .i64 next2] 33) := by rw [hW']; exact set4_blk KB _ _ _ _
  refine ⟨⟨a3, n3, c3, blk_grown KA g4 (by intro q; injection q with q; exact hne q), OwnR.far hO g4 (own_blk_ne hO.2 KB (by decide))⟩, ⟨a4, n4, c4, a5, n5, c5, b4, OwnR.far hI g4 (own_blk_ne hI.2 KB (by decide)), OwnR.far hM g4 (own_blk_ne hM.2 KB (by decide))⟩, ?_⟩
  exact hu.trans (below_grown g4 hu.size (fun k hk => by injection hk with hk; omega))
theorem fin_ab {w1 w4 : World} {base : Nat} {ts add : List Me} {drop : List Int} {seq next seq2 next2 : Int} {a3 a4 a5 : Option Addr} {n3 c3 n4 c4 n5 c5 : Nat}
    (hO : VerO w4 base a3 n3 c3 ts) (hI : OwnR w4 base 3 1 (.slice a4 n4 c4) (drop.map irow)) (hM : VerO w4 base a5 n5 c5 add) (hu : Below w1.heap.size w1 w4) :
    Hid (XBox ((w4.alloc (.cells #[.slice a3 n3 c3, .int .i64 seq, .int .i64 next] 30)).alloc (.cells #[.slice a4 n4 c4, .slice a5 n5 c5, .int .i64 seq2, .int .i64 next2] 33)) base w4.heap.size ts seq next) ∧ Hid (YBox ((w4.alloc (.cells #[.slice a3 n3 c3, .int .i64 seq, .int .i64 next] 30)).alloc (.cells #[.slice a4 n4 c4, .slice a5 n5 c5, .int .i64 seq2, .int .i64 next2] 33)) base (w4.heap.size + 1) drop add seq2 next2) ∧ Hid (Below w1.heap.size w1 ((w4.alloc (.cells #[.slice a3 n3 c3, .int .i64 seq, .int .i64 next] 30)).alloc (.cells #[.slice a4 n4 c4, .slice a5 n5 c5, .int .i64 seq2, .int .i64 next2] 33))) :=
  ⟨⟨a3, n3, c3, twoa w4 _ _, hO.up (up_al (up_alloc _ _) _)⟩, ⟨a4, n4, c4, a5, n5, c5, twob w4 _ _, hI.up (up_al (up_alloc _ _) _), hM.up (up_al (up_alloc _ _) _)⟩, up_al (up_al hu _) _⟩
theorem fin_ba {w1 w4 : World} {base : Nat} {ts add : List Me} {drop : List Int} {seq next seq2 next2 : Int} {a3 a4 a5 : Option Addr} {n3 c3 n4 c4 n5 c5 : Nat}
    (hO : VerO w4 base a3 n3 c3 ts) (hI : OwnR w4 base 3 1 (.slice a4 n4 c4) (drop.map irow)) (hM : VerO w4 base a5 n5 c5 add) (hu : Below w1.heap.size w1 w4) :
    Hid (XBox ((w4.alloc (.cells #[.slice a4 n4 c4, .slice a5 n5 c5, .int .i64 seq2, .int .i64 next2] 33)).alloc (.cells #[.slice a3 n3 c3, .int .i64 seq, .int .i64 next] 30)) base (w4.heap.size + 1) ts seq next) ∧ Hid (YBox ((w4.alloc (.cells #[.slice a4 n4 c4, .slice a5 n5 c5, .int .i64 seq2, .int .i64 next2] 33)).alloc (.cells #[.slice a3 n3 c3, .int .i64 seq, .int .i64 next] 30)) base w4.heap.size drop add seq2 next2) ∧ Hid (Below w1.heap.size w1 ((w4.alloc (.cells #[.slice a4 n4 c4, .slice a5 n5 c5, .int .i64 seq2, .int .i64 next2] 33)).alloc (.cells #[.slice a3 n3 c3, .int .i64 seq, .int .i64 next] 30))) :=
  ⟨⟨a3, n3, c3, twob w4 _ _, hO.up (up_al (up_alloc _ _) _)⟩, ⟨a4, n4, c4, a5, n5, c5, twoa w4 _ _, hI.up (up_al (up_alloc _ _) _), hM.up (up_al (up_alloc _ _) _)⟩, up_al (up_al hu _) _⟩
/-- The slice is of a block that the call has made, whatever stands in it. -/
def ShpR (w : World) (base : Nat) (e : TypeId) (sz : Nat) (v : Value) : Prop := (∃ c, v = .slice none 0 c) ∨ ∃ g n cap cur, v = .slice (some ⟨g, 0, none⟩) n cap ∧ base ≤ g ∧ w.heap[g]? = some (.cells cur e (0, 0)) ∧ n ≤ cap ∧ cap ≤ maxLen ∧ cur.size = cap * sz
theorem OwnR.shp {w : World} {base : Nat} {e : TypeId} {sz : Nat} {v : Value} {css : List (List Value)} (h : OwnR w base e sz v css) : ShpR w base e sz v := by
  rcases h.2.2 with ⟨h1, h2⟩ | ⟨g, cap, cur, h1, h2, h3, h4, h5, h6, h7⟩
  · exact .inl ⟨0, h1⟩
  · exact .inr ⟨g, _, cap, cur, h1, h2, h3, h4, h5, h6⟩
theorem set_same {w : World} {g : Nat} {cs : Array Value} {t : TypeId} (h : w.heap[g]? = some (.cells cs t (0, 0))) (i : Nat) (u : Value) : (w.setCell ⟨g, i, none⟩ u).heap[g]? = some (.cells (cs.setIfInBounds i u) t (0, 0)) := blk_set h i u
theorem ShpR.set {w : World} {base : Nat} {e e' : TypeId} {sz g : Nat} {v : Value} {cs : Array Value} (h : ShpR w base e sz v) (hg : w.heap[g]? = some (.cells cs e' (0, 0))) (i : Nat) (u : Value) : ShpR (w.setCell ⟨g, i, none⟩ u) base e sz v := by
  rcases h with h | ⟨g', n, cap, cur, h1, h2, h3, h4, h5, h6⟩
  · exact .inl h
  · by_cases q : g' = g
    · subst q
      exact .inr ⟨g', n, cap, cur.setIfInBounds i u, h1, h2, set_same h3 i u, h4, h5, by simpa using h6⟩
    · exact .inr ⟨g', n, cap, cur, h1, h2, blk_setn h3 q, h4, h5, h6⟩
theorem ShpR.up {w w' : World} {base : Nat} {e : TypeId} {sz : Nat} {v : Value} (h : ShpR w base e sz v) (hb : Below w.heap.size w w') : ShpR w' base e sz v := by
  rcases h with h | ⟨g', n, cap, cur, h1, h2, h3, h4, h5, h6⟩
  · exact .inl h
  · exact .inr ⟨g', n, cap, cur, h1, h2, blk_up h3 hb, h4, h5, h6⟩
/-- What is kept while x and y are written over. -/
structure SpI (w1 w5 wr : World) (hi NX NY : Nat) (VX VY : Array Value) (vx vd vm : Value) : Prop where
  keep : ∀ k, hi ≤ k → wr.heap[k]? = w5.heap[k]?
  low : Below w1.heap.size w1 wr
  bx : wr.heap[NX]? = some (.cells VX 30)
  bY : wr.heap[NY]? = some (.cells VY 33)
  sx : ShpR wr w1.heap.size 65 5 vx
  sd : ShpR wr w1.heap.size 3 1 vd
  sm : ShpR wr w1.heap.size 65 5 vm
theorem SpI.set {w1 w5 wr : World} {hi NX NY : Nat} {VX VY : Array Value} {vx vd vm : Value} (h : SpI w1 w5 wr hi NX NY VX VY vx vd vm) {g : Nat} {e : TypeId} {cs : Array Value} (hg : wr.heap[g]? = some (.cells cs e (0, 0))) (h0 : e ≠ 30) (h1 : e ≠ 33) (hl : w1.heap.size ≤ g) (hh : g < hi) (i : Nat) (u : Value) :
    SpI w1 w5 (wr.setCell ⟨g, i, none⟩ u) hi NX NY VX VY vx vd vm := by
  refine ⟨fun k hk => ?_, up_set1 h.low hl, blk_setn h.bx ?_, blk_setn h.bY ?_, h.sx.set hg i u, h.sd.set hg i u, h.sm.set hg i u⟩
  · rw [← h.keep k hk]
    exact Below.heap_setCell _ _ _ _ (by simp only; omega)
  · intro q
    subst q
    have := h.bx
    rw [hg] at this
    simp at this
    exact h0 this.2
  · intro q
    subst q
    have := h.bY
    rw [hg] at this
    simp at this
    exact h1 this.2
theorem OwnR.keep {w w' : World} {hi : Nat} {e : TypeId} {sz : Nat} {v : Value} {css : List (List Value)} (h : OwnR w hi e sz v css) (hk : ∀ k, hi ≤ k → w'.heap[k]? = w.heap[k]?) : OwnR w' hi e sz v css := by
  refine ⟨h.1, h.2.1, ?_⟩
  rcases h.2.2 with q | ⟨g, cap, cur, h1, h2, h3, h4⟩
  · exact .inl q
  · exact .inr ⟨g, cap, cur, h1, h2, by rw [hk g h2]; exact h3, h4⟩
theorem cell_in {w : World} {g : Nat} {cs : Array Value} {e : TypeId} (h : w.heap[g]? = some (.cells cs e (0, 0))) (i : Nat) (hi : i < cs.size) : ∃ u, w.cell? ⟨g, i, none⟩ = some u := ⟨cs[i], blk_cell h i _ (Array.getElem?_eq_getElem hi)⟩
theorem set_size {w : World} {g : Nat} {cs : Array Value} {e : TypeId} (h : w.heap[g]? = some (.cells cs e (0, 0))) (i : Nat) (u : Value) : ∃ cs', (w.setCell ⟨g, i, none⟩ u).heap[g]? = some (.cells cs' e (0, 0)) := ⟨_, set_same h i u⟩
theorem SpI.set5 {w1 w5 wr : World} {hi NX NY : Nat} {VX VY : Array Value} {vx vd vm : Value} (h : SpI w1 w5 wr hi NX NY VX VY vx vd vm) {g : Nat} {cs : Array Value} (hg : wr.heap[g]? = some (.cells cs 65 (0, 0))) (hl : w1.heap.size ≤ g) (hh : g < hi) (i0 i1 i2 i3 i4 : Nat) (u0 u1 u2 u3 u4 : Value) :
    SpI w1 w5 (((((wr.setCell ⟨g, i0, none⟩ u0).setCell ⟨g, i1, none⟩ u1).setCell ⟨g, i2, none⟩ u2).setCell ⟨g, i3, none⟩ u3).setCell ⟨g, i4, none⟩ u4) hi NX NY VX VY vx vd vm := by
  have a0 := h.set hg (by decide) (by decide) hl hh i0 u0
  obtain ⟨c1, e1⟩ := set_size hg i0 u0
  have a1 := a0.set e1 (by decide) (by decide) hl hh i1 u1
  obtain ⟨c2, e2⟩ := set_size e1 i1 u1
  have a2 := a1.set e2 (by decide) (by decide) hl hh i2 u2
  obtain ⟨c3, e3⟩ := set_size e2 i2 u2
  have a3 := a2.set e3 (by decide) (by decide) hl hh i3 u3
  obtain ⟨c4, e4⟩ := set_size e3 i3 u3
  exact a3.set e4 (by decide) (by decide) hl hh i4 u4

set_option maxHeartbeats 16000000 in
set_option maxRecDepth 100000 in
theorem own_walk (ts : List Me) (seq next : Int) (drop : List Int) (add : List Me) (seq2 next2 : Int) (va da aa : Option Addr) (vn vc dn dc an ac : Nat) (w : World)
    (hv : MetsR w (.slice va vn vc) ts) (hd : IntsR w (.slice da dn dc) drop) (ha : MetsR w (.slice aa an ac) add) (hdi : ∀ i ∈ drop, In64 i) (htl : ts.length ≤ 4000000000000) (hdl : drop.length ≤ 17592186044416) (hal : add.length ≤ 4000000000000) :
    Calls Try.prog 7 #[.agg #[.slice va vn vc, .int .i64 seq, .int .i64 next], .agg #[.slice da dn dc, .slice aa an ac, .int .i64 seq2, .int .i64 next2]] w fun e w' => e = .returned (.bool true) ∧ Hid (Below w.heap.size w w') := by
  have HV : Hid (MetsR w (.slice va vn vc) ts) := hv
  have HD : Hid (IntsR w (.slice da dn dc) drop) := hd
  have HA : Hid (MetsR w (.slice aa an ac) add) := ha
  have HDI : Hid (∀ i ∈ drop, In64 i) := hdi
  clear hv hd ha hdi
  obtain ⟨w0, hw0⟩ : ∃ w0, w0 = (w.alloc (.cells #[.slice va vn vc, .int .i64 seq, .int .i64 next] 24)).alloc (.cells #[.slice da dn dc, .slice aa an ac, .int .i64 seq2, .int .i64 next2] 27) := ⟨_, rfl⟩
  have HW0 : Hid ((w.alloc (.cells #[.slice va vn vc, .int .i64 seq, .int .i64 next] 24)).alloc (.cells #[.slice da dn dc, .slice aa an ac, .int .i64 seq2, .int .i64 next2] 27) = w0) := hw0.symm
  have U0 : Hid (Below w.heap.size w w0) := by rw [hw0]; exact up_al (up_alloc _ _) _
  have B0 : Hid (w0.heap[w.heap.size]? = some (.cells #[.slice va vn vc, .int .i64 seq, .int .i64 next] 24)) := by rw [hw0]; exact blk_up (blk_new _ _) (up_alloc _ _)
  have B1 : Hid (w0.heap[w.heap.size + 1]? = some (.cells #[.slice da dn dc, .slice aa an ac, .int .i64 seq2, .int .i64 next2] 27)) := by
    rw [hw0]
    have := blk_new (w.alloc (.cells #[.slice va vn vc, .int .i64 seq, .int .i64 next] 24)) (.cells #[.slice da dn dc, .slice aa an ac, .int .i64 seq2, .int .i64 next2] 27)
    rw [show (w.alloc (.cells #[.slice va vn vc, .int .i64 seq, .int .i64 next] 24)).heap.size = w.heap.size + 1 by simp] at this
    exact this
  have SZ : Hid (w0.heap.size = w.heap.size + 1 + 1) := by rw [hw0]; unfold Hid; simp
  clear hw0
  have HAL : Hid (∀ w, Calls Try.prog 22 #[] w fun e w' => e = .returned (.bool true) ∧ Hid (Below w.heap.size w w')) := alive_any
  go_enter Try.func7, Try.ntmps7
  go_upto_region 1 with fail
  rw [HW0.out]
  clear HW0
  generalize hN1 : w.heap.size + 1 = N1 at *
  have HN : Hid (w.heap.size < w0.heap.size ∧ N1 < w0.heap.size ∧ w.heap.size ≤ N1) := by have := SZ.out; unfold Hid; omega
  clear SZ hN1
  go_wp2_with fail
  refine (HAL.out _).mono ?_
  rintro e w1 ⟨rfl, u1⟩
  have U1 := hid (up_trans U0.out u1.out)
  replace B0 := hid (blk_up B0.out u1.out)
  replace B1 := hid (blk_up B1.out u1.out)
  replace HN : Hid (w.heap.size < w1.heap.size ∧ N1 < w1.heap.size ∧ w.heap.size ≤ N1) := by have := HN.out; have := u1.out.size; unfold Hid; omega
  clear u1 U0 HAL
  clear w0
  obtain ⟨x0, x1, x2, y0, y1, y2, y3⟩ := seven B0.out B1.out
  have HCE : Hid (∀ W, Below w1.heap.size w1 W → W.cell? ⟨w.heap.size, 0, none⟩ = some (.slice va vn vc) ∧ W.cell? ⟨w.heap.size, 1, none⟩ = some (.int .i64 seq) ∧ W.cell? ⟨w.heap.size, 2, none⟩ = some (.int .i64 next) ∧ W.cell? ⟨N1, 0, none⟩ = some (.slice da dn dc) ∧ W.cell? ⟨N1, 1, none⟩ = some (.slice aa an ac) ∧ W.cell? ⟨N1, 2, none⟩ = some (.int .i64 seq2) ∧ W.cell? ⟨N1, 3, none⟩ = some (.int .i64 next2)) := fun W h => seven (blk_up B0.out h) (blk_up B1.out h)
  have C8 : Hid (∀ W, Below w1.heap.size w1 W → Calls Try.prog 8 #[.agg #[.slice va vn vc, .int .i64 seq, .int .i64 next]] W fun e w' => ∃ a n c, e = .returned (.agg #[.slice a n c, .int .i64 seq, .int .i64 next]) ∧ Hid (VerO w' w1.heap.size a n c ts) ∧ Hid (Below w1.heap.size w1 w') ∧ Hid (Below W.heap.size W w')) := by
    intro W u
    refine (of_any ts seq next va vn vc W ((HV.out.up U1.out).up u) htl).mono ?_
    rintro e w' ⟨a, n, c, rfl, hO, hb⟩
    exact ⟨a, n, c, rfl, hO.out.mono u.size, up_trans u hb.out, hb⟩
  have C9 : Hid (∀ W, Below w1.heap.size w1 W → Calls Try.prog 9 #[.agg #[.slice da dn dc, .slice aa an ac, .int .i64 seq2, .int .i64 next2]] W fun e w' => ∃ a1 n1 c1 a2 n2 c2, e = .returned (.agg #[.slice a1 n1 c1, .slice a2 n2 c2, .int .i64 seq2, .int .i64 next2]) ∧ Hid (OwnR w' w1.heap.size 3 1 (.slice a1 n1 c1) (drop.map irow)) ∧ Hid (VerO w' w1.heap.size a2 n2 c2 add) ∧ Hid (Below w1.heap.size w1 w') ∧ Hid (Below W.heap.size W w')) := by
    intro W u
    refine (ofEdit_any drop add seq2 next2 da aa dn dc an ac W ((HD.out.up U1.out).up u) ((HA.out.up U1.out).up u) hdl hal).mono ?_
    rintro e w' ⟨a1, n1, c1, a2, n2, c2, rfl, hO, hQ, hb⟩
    exact ⟨a1, n1, c1, a2, n2, c2, rfl, hO.out.mono u.size, hQ.out.mono u.size, up_trans u hb.out, hb⟩
  go_wp2_with fail
  go_cut [5, 6] from 16 to 19 (fun s5 s6 wx => ∃ NX NY : Nat, s5 = .pointer (some ⟨NX, 0, none⟩) ∧ s6 = .pointer (some ⟨NY, 0, none⟩) ∧ Hid (XBox wx w1.heap.size NX ts seq next) ∧ Hid (YBox wx w1.heap.size NY drop add seq2 next2) ∧ Hid (Below w1.heap.size w1 wx))
  case first =>
    go_region_held3 (fun w' => w'.cell? ⟨w.heap.size, 0, none⟩ = some (.slice va vn vc) ∧ w'.cell? ⟨w.heap.size, 1, none⟩ = some (.int .i64 seq) ∧ w'.cell? ⟨w.heap.size, 2, none⟩ = some (.int .i64 next) ∧ w'.cell? ⟨N1, 0, none⟩ = some (.slice da dn dc) ∧ w'.cell? ⟨N1, 1, none⟩ = some (.slice aa an ac) ∧ w'.cell? ⟨N1, 2, none⟩ = some (.int .i64 seq2) ∧ w'.cell? ⟨N1, 3, none⟩ = some (.int .i64 next2)) (first | with_reducible exact ⟨x0, x1, x2, y0, y1, y2, y3⟩ | (with_reducible refine HCE.out _ ?_; (repeat (first | with_reducible exact u4.out | with_reducible exact u3.out | with_reducible exact Below.refl _ _ | with_reducible refine up_dr ?_ | with_reducible refine up_al ?_ _ | with_reducible refine up_set1 ?_ ?_ | exact Nat.le_refl _ | exact u3.out.size | exact u4.out.size | exact Nat.le_succ _ | exact Nat.le_succ_of_le u3.out.size | exact Nat.le_succ_of_le u4.out.size)); done)) (first
      | (go_at_call 8; with_reducible refine (C8.out _ (up_dr (up_al (up_alloc w1 (.cells #[.slice none 0 0, .int .i64 0, .int .i64 0] 30)) (.cells #[.slice none 0 0, .slice none 0 0, .int .i64 0, .int .i64 0] 33)))).mono ?_; rintro e w3 ⟨a3, n3, c3, rfl, O3, u3, v3⟩; have KA := hid (blk_up (w := ((w1.alloc (.cells #[.slice none 0 0, .int .i64 0, .int .i64 0] 30)).alloc (.cells #[.slice none 0 0, .slice none 0 0, .int .i64 0, .int .i64 0] 33)).drew) (two0 w1 (.cells #[.slice none 0 0, .int .i64 0, .int .i64 0] 30) (.cells #[.slice none 0 0, .slice none 0 0, .int .i64 0, .int .i64 0] 33)) v3.out); have KB := hid (blk_up (w := ((w1.alloc (.cells #[.slice none 0 0, .int .i64 0, .int .i64 0] 30)).alloc (.cells #[.slice none 0 0, .slice none 0 0, .int .i64 0, .int .i64 0] 33)).drew) (two1 w1 (.cells #[.slice none 0 0, .int .i64 0, .int .i64 0] 30) (.cells #[.slice none 0 0, .slice none 0 0, .int .i64 0, .int .i64 0] 33)) v3.out))
      | (go_at_call 8; with_reducible refine (C8.out _ (up_dr (up_al (up_alloc w1 (.cells #[.slice none 0 0, .slice none 0 0, .int .i64 0, .int .i64 0] 33)) (.cells #[.slice none 0 0, .int .i64 0, .int .i64 0] 30)))).mono ?_; rintro e w3 ⟨a3, n3, c3, rfl, O3, u3, v3⟩; have KB := hid (blk_up (w := ((w1.alloc (.cells #[.slice none 0 0, .slice none 0 0, .int .i64 0, .int .i64 0] 33)).alloc (.cells #[.slice none 0 0, .int .i64 0, .int .i64 0] 30)).drew) (two0 w1 (.cells #[.slice none 0 0, .slice none 0 0, .int .i64 0, .int .i64 0] 33) (.cells #[.slice none 0 0, .int .i64 0, .int .i64 0] 30)) v3.out); have KA := hid (blk_up (w := ((w1.alloc (.cells #[.slice none 0 0, .slice none 0 0, .int .i64 0, .int .i64 0] 33)).alloc (.cells #[.slice none 0 0, .int .i64 0, .int .i64 0] 30)).drew) (two1 w1 (.cells #[.slice none 0 0, .slice none 0 0, .int .i64 0, .int .i64 0] 33) (.cells #[.slice none 0 0, .int .i64 0, .int .i64 0] 30)) v3.out))
      | (go_at_call 8; with_reducible refine (C8.out _ (up_dr (up_alloc w1 (.cells #[.slice none 0 0, .int .i64 0, .int .i64 0] 30)))).mono ?_; rintro e w3 ⟨a3, n3, c3, rfl, O3, u3, v3⟩; have KA := hid (blk_up (w := (w1.alloc (.cells #[.slice none 0 0, .int .i64 0, .int .i64 0] 30)).drew) (blk_new w1 (.cells #[.slice none 0 0, .int .i64 0, .int .i64 0] 30)) v3.out))
      | (go_at_call 8; with_reducible refine (C8.out _ (up_dr (up_alloc w1 (.cells #[.slice none 0 0, .slice none 0 0, .int .i64 0, .int .i64 0] 33)))).mono ?_; rintro e w3 ⟨a3, n3, c3, rfl, O3, u3, v3⟩; have KB := hid (blk_up (w := (w1.alloc (.cells #[.slice none 0 0, .slice none 0 0, .int .i64 0, .int .i64 0] 33)).drew) (blk_new w1 (.cells #[.slice none 0 0, .slice none 0 0, .int .i64 0, .int .i64 0] 33)) v3.out))
      | (go_at_call 8; with_reducible refine (C8.out _ (up_dr (Below.refl _ _))).mono ?_; rintro e w3 ⟨a3, n3, c3, rfl, O3, u3, v3⟩)
      | (go_at_call 9; with_reducible refine (C9.out _ u3.out).mono ?_; rintro e w4 ⟨a4, n4, c4, a5, n5, c5, rfl, I4, M4, u4, v4⟩; have O4 := hid (O3.out.up v4.out); have KA := hid (blk_up KA.out v4.out); have KB := hid (blk_up KB.out v4.out); have ra0 := blk_cell KA.out 0 _ rfl; have ra1 := blk_cell KA.out 1 _ rfl; have ra2 := blk_cell KA.out 2 _ rfl; have fa0 := blk_frozen KA.out 0; have fa1 := blk_frozen KA.out 1; have fa2 := blk_frozen KA.out 2; have qa0 := fun o => blk_cell (blk_up KA.out (up_alloc w4 o)) 0 _ rfl; have qa1 := fun o => blk_cell (blk_up KA.out (up_alloc w4 o)) 1 _ rfl; have qa2 := fun o => blk_cell (blk_up KA.out (up_alloc w4 o)) 2 _ rfl; have ga0 := fun o => blk_frozen (blk_up KA.out (up_alloc w4 o)) 0; have ga1 := fun o => blk_frozen (blk_up KA.out (up_alloc w4 o)) 1; have ga2 := fun o => blk_frozen (blk_up KA.out (up_alloc w4 o)) 2; have na1 := Nat.ne_of_lt (blk_lt KA.out); have na2 := Nat.ne_of_gt (blk_lt KA.out); have rb0 := blk_cell KB.out 0 _ rfl; have rb1 := blk_cell KB.out 1 _ rfl; have rb2 := blk_cell KB.out 2 _ rfl; have rb3 := blk_cell KB.out 3 _ rfl; have fb0 := blk_frozen KB.out 0; have fb1 := blk_frozen KB.out 1; have fb2 := blk_frozen KB.out 2; have fb3 := blk_frozen KB.out 3; have qb0 := fun o => blk_cell (blk_up KB.out (up_alloc w4 o)) 0 _ rfl; have qb1 := fun o => blk_cell (blk_up KB.out (up_alloc w4 o)) 1 _ rfl; have qb2 := fun o => blk_cell (blk_up KB.out (up_alloc w4 o)) 2 _ rfl; have qb3 := fun o => blk_cell (blk_up KB.out (up_alloc w4 o)) 3 _ rfl; have gb0 := fun o => blk_frozen (blk_up KB.out (up_alloc w4 o)) 0; have gb1 := fun o => blk_frozen (blk_up KB.out (up_alloc w4 o)) 1; have gb2 := fun o => blk_frozen (blk_up KB.out (up_alloc w4 o)) 2; have gb3 := fun o => blk_frozen (blk_up KB.out (up_alloc w4 o)) 3; have nb1 := Nat.ne_of_lt (blk_lt KB.out); have nb2 := Nat.ne_of_gt (blk_lt KB.out))
      | (go_at_call 9; with_reducible refine (C9.out _ u3.out).mono ?_; rintro e w4 ⟨a4, n4, c4, a5, n5, c5, rfl, I4, M4, u4, v4⟩; have O4 := hid (O3.out.up v4.out); have KA := hid (blk_up KA.out v4.out); have ra0 := blk_cell KA.out 0 _ rfl; have ra1 := blk_cell KA.out 1 _ rfl; have ra2 := blk_cell KA.out 2 _ rfl; have fa0 := blk_frozen KA.out 0; have fa1 := blk_frozen KA.out 1; have fa2 := blk_frozen KA.out 2; have qa0 := fun o => blk_cell (blk_up KA.out (up_alloc w4 o)) 0 _ rfl; have qa1 := fun o => blk_cell (blk_up KA.out (up_alloc w4 o)) 1 _ rfl; have qa2 := fun o => blk_cell (blk_up KA.out (up_alloc w4 o)) 2 _ rfl; have ga0 := fun o => blk_frozen (blk_up KA.out (up_alloc w4 o)) 0; have ga1 := fun o => blk_frozen (blk_up KA.out (up_alloc w4 o)) 1; have ga2 := fun o => blk_frozen (blk_up KA.out (up_alloc w4 o)) 2; have na1 := Nat.ne_of_lt (blk_lt KA.out); have na2 := Nat.ne_of_gt (blk_lt KA.out))
      | (go_at_call 9; with_reducible refine (C9.out _ u3.out).mono ?_; rintro e w4 ⟨a4, n4, c4, a5, n5, c5, rfl, I4, M4, u4, v4⟩; have O4 := hid (O3.out.up v4.out); have KB := hid (blk_up KB.out v4.out); have rb0 := blk_cell KB.out 0 _ rfl; have rb1 := blk_cell KB.out 1 _ rfl; have rb2 := blk_cell KB.out 2 _ rfl; have rb3 := blk_cell KB.out 3 _ rfl; have fb0 := blk_frozen KB.out 0; have fb1 := blk_frozen KB.out 1; have fb2 := blk_frozen KB.out 2; have fb3 := blk_frozen KB.out 3; have qb0 := fun o => blk_cell (blk_up KB.out (up_alloc w4 o)) 0 _ rfl; have qb1 := fun o => blk_cell (blk_up KB.out (up_alloc w4 o)) 1 _ rfl; have qb2 := fun o => blk_cell (blk_up KB.out (up_alloc w4 o)) 2 _ rfl; have qb3 := fun o => blk_cell (blk_up KB.out (up_alloc w4 o)) 3 _ rfl; have gb0 := fun o => blk_frozen (blk_up KB.out (up_alloc w4 o)) 0; have gb1 := fun o => blk_frozen (blk_up KB.out (up_alloc w4 o)) 1; have gb2 := fun o => blk_frozen (blk_up KB.out (up_alloc w4 o)) 2; have gb3 := fun o => blk_frozen (blk_up KB.out (up_alloc w4 o)) 3; have nb1 := Nat.ne_of_lt (blk_lt KB.out); have nb2 := Nat.ne_of_gt (blk_lt KB.out))
      | (go_at_call 9; with_reducible refine (C9.out _ u3.out).mono ?_; rintro e w4 ⟨a4, n4, c4, a5, n5, c5, rfl, I4, M4, u4, v4⟩; have O4 := hid (O3.out.up v4.out))
      | (go_at_call 9; with_reducible refine (C9.out _ (up_al u3.out (.cells #[.slice none 0 0, .slice none 0 0, .int .i64 0, .int .i64 0] 33))).mono ?_; rintro e w4 ⟨a4, n4, c4, a5, n5, c5, rfl, I4, M4, u4, v4⟩; have O4 := hid ((O3.out.up (up_alloc _ _)).up v4.out); have nk1 := Nat.ne_of_lt (blk_lt KA.out); have nk2 := Nat.ne_of_gt (blk_lt KA.out); have KA := hid (blk_up (blk_up KA.out (up_alloc w3 (.cells #[.slice none 0 0, .slice none 0 0, .int .i64 0, .int .i64 0] 33))) v4.out); have KB := hid (blk_up (blk_new w3 (.cells #[.slice none 0 0, .slice none 0 0, .int .i64 0, .int .i64 0] 33)) v4.out); have ra0 := blk_cell KA.out 0 _ rfl; have ra1 := blk_cell KA.out 1 _ rfl; have ra2 := blk_cell KA.out 2 _ rfl; have fa0 := blk_frozen KA.out 0; have fa1 := blk_frozen KA.out 1; have fa2 := blk_frozen KA.out 2; have qa0 := fun o => blk_cell (blk_up KA.out (up_alloc w4 o)) 0 _ rfl; have qa1 := fun o => blk_cell (blk_up KA.out (up_alloc w4 o)) 1 _ rfl; have qa2 := fun o => blk_cell (blk_up KA.out (up_alloc w4 o)) 2 _ rfl; have ga0 := fun o => blk_frozen (blk_up KA.out (up_alloc w4 o)) 0; have ga1 := fun o => blk_frozen (blk_up KA.out (up_alloc w4 o)) 1; have ga2 := fun o => blk_frozen (blk_up KA.out (up_alloc w4 o)) 2; have na1 := Nat.ne_of_lt (blk_lt KA.out); have na2 := Nat.ne_of_gt (blk_lt KA.out); have rb0 := blk_cell KB.out 0 _ rfl; have rb1 := blk_cell KB.out 1 _ rfl; have rb2 := blk_cell KB.out 2 _ rfl; have rb3 := blk_cell KB.out 3 _ rfl; have fb0 := blk_frozen KB.out 0; have fb1 := blk_frozen KB.out 1; have fb2 := blk_frozen KB.out 2; have fb3 := blk_frozen KB.out 3; have qb0 := fun o => blk_cell (blk_up KB.out (up_alloc w4 o)) 0 _ rfl; have qb1 := fun o => blk_cell (blk_up KB.out (up_alloc w4 o)) 1 _ rfl; have qb2 := fun o => blk_cell (blk_up KB.out (up_alloc w4 o)) 2 _ rfl; have qb3 := fun o => blk_cell (blk_up KB.out (up_alloc w4 o)) 3 _ rfl; have gb0 := fun o => blk_frozen (blk_up KB.out (up_alloc w4 o)) 0; have gb1 := fun o => blk_frozen (blk_up KB.out (up_alloc w4 o)) 1; have gb2 := fun o => blk_frozen (blk_up KB.out (up_alloc w4 o)) 2; have gb3 := fun o => blk_frozen (blk_up KB.out (up_alloc w4 o)) 3; have nb1 := Nat.ne_of_lt (blk_lt KB.out); have nb2 := Nat.ne_of_gt (blk_lt KB.out))
      | (go_at_call 9; with_reducible refine (C9.out _ (up_al u3.out (.cells #[.slice none 0 0, .int .i64 0, .int .i64 0] 30))).mono ?_; rintro e w4 ⟨a4, n4, c4, a5, n5, c5, rfl, I4, M4, u4, v4⟩; have O4 := hid ((O3.out.up (up_alloc _ _)).up v4.out); have nk1 := Nat.ne_of_lt (blk_lt KB.out); have nk2 := Nat.ne_of_gt (blk_lt KB.out); have KB := hid (blk_up (blk_up KB.out (up_alloc w3 (.cells #[.slice none 0 0, .int .i64 0, .int .i64 0] 30))) v4.out); have KA := hid (blk_up (blk_new w3 (.cells #[.slice none 0 0, .int .i64 0, .int .i64 0] 30)) v4.out); have ra0 := blk_cell KA.out 0 _ rfl; have ra1 := blk_cell KA.out 1 _ rfl; have ra2 := blk_cell KA.out 2 _ rfl; have fa0 := blk_frozen KA.out 0; have fa1 := blk_frozen KA.out 1; have fa2 := blk_frozen KA.out 2; have qa0 := fun o => blk_cell (blk_up KA.out (up_alloc w4 o)) 0 _ rfl; have qa1 := fun o => blk_cell (blk_up KA.out (up_alloc w4 o)) 1 _ rfl; have qa2 := fun o => blk_cell (blk_up KA.out (up_alloc w4 o)) 2 _ rfl; have ga0 := fun o => blk_frozen (blk_up KA.out (up_alloc w4 o)) 0; have ga1 := fun o => blk_frozen (blk_up KA.out (up_alloc w4 o)) 1; have ga2 := fun o => blk_frozen (blk_up KA.out (up_alloc w4 o)) 2; have na1 := Nat.ne_of_lt (blk_lt KA.out); have na2 := Nat.ne_of_gt (blk_lt KA.out); have rb0 := blk_cell KB.out 0 _ rfl; have rb1 := blk_cell KB.out 1 _ rfl; have rb2 := blk_cell KB.out 2 _ rfl; have rb3 := blk_cell KB.out 3 _ rfl; have fb0 := blk_frozen KB.out 0; have fb1 := blk_frozen KB.out 1; have fb2 := blk_frozen KB.out 2; have fb3 := blk_frozen KB.out 3; have qb0 := fun o => blk_cell (blk_up KB.out (up_alloc w4 o)) 0 _ rfl; have qb1 := fun o => blk_cell (blk_up KB.out (up_alloc w4 o)) 1 _ rfl; have qb2 := fun o => blk_cell (blk_up KB.out (up_alloc w4 o)) 2 _ rfl; have qb3 := fun o => blk_cell (blk_up KB.out (up_alloc w4 o)) 3 _ rfl; have gb0 := fun o => blk_frozen (blk_up KB.out (up_alloc w4 o)) 0; have gb1 := fun o => blk_frozen (blk_up KB.out (up_alloc w4 o)) 1; have gb2 := fun o => blk_frozen (blk_up KB.out (up_alloc w4 o)) 2; have gb3 := fun o => blk_frozen (blk_up KB.out (up_alloc w4 o)) 3; have nb1 := Nat.ne_of_lt (blk_lt KB.out); have nb2 := Nat.ne_of_gt (blk_lt KB.out))
      | (go_at_call 9; with_reducible refine (C9.out _ (up_al u3.out (.cells #[.slice none 0 0, .int .i64 0, .int .i64 0] 30))).mono ?_; rintro e w4 ⟨a4, n4, c4, a5, n5, c5, rfl, I4, M4, u4, v4⟩; have O4 := hid ((O3.out.up (up_alloc _ _)).up v4.out); have KA := hid (blk_up (blk_new w3 (.cells #[.slice none 0 0, .int .i64 0, .int .i64 0] 30)) v4.out); have ra0 := blk_cell KA.out 0 _ rfl; have ra1 := blk_cell KA.out 1 _ rfl; have ra2 := blk_cell KA.out 2 _ rfl; have fa0 := blk_frozen KA.out 0; have fa1 := blk_frozen KA.out 1; have fa2 := blk_frozen KA.out 2; have qa0 := fun o => blk_cell (blk_up KA.out (up_alloc w4 o)) 0 _ rfl; have qa1 := fun o => blk_cell (blk_up KA.out (up_alloc w4 o)) 1 _ rfl; have qa2 := fun o => blk_cell (blk_up KA.out (up_alloc w4 o)) 2 _ rfl; have ga0 := fun o => blk_frozen (blk_up KA.out (up_alloc w4 o)) 0; have ga1 := fun o => blk_frozen (blk_up KA.out (up_alloc w4 o)) 1; have ga2 := fun o => blk_frozen (blk_up KA.out (up_alloc w4 o)) 2; have na1 := Nat.ne_of_lt (blk_lt KA.out); have na2 := Nat.ne_of_gt (blk_lt KA.out))
      | (go_at_call 9; with_reducible refine (C9.out _ (up_al u3.out (.cells #[.slice none 0 0, .slice none 0 0, .int .i64 0, .int .i64 0] 33))).mono ?_; rintro e w4 ⟨a4, n4, c4, a5, n5, c5, rfl, I4, M4, u4, v4⟩; have O4 := hid ((O3.out.up (up_alloc _ _)).up v4.out); have KB := hid (blk_up (blk_new w3 (.cells #[.slice none 0 0, .slice none 0 0, .int .i64 0, .int .i64 0] 33)) v4.out); have rb0 := blk_cell KB.out 0 _ rfl; have rb1 := blk_cell KB.out 1 _ rfl; have rb2 := blk_cell KB.out 2 _ rfl; have rb3 := blk_cell KB.out 3 _ rfl; have fb0 := blk_frozen KB.out 0; have fb1 := blk_frozen KB.out 1; have fb2 := blk_frozen KB.out 2; have fb3 := blk_frozen KB.out 3; have qb0 := fun o => blk_cell (blk_up KB.out (up_alloc w4 o)) 0 _ rfl; have qb1 := fun o => blk_cell (blk_up KB.out (up_alloc w4 o)) 1 _ rfl; have qb2 := fun o => blk_cell (blk_up KB.out (up_alloc w4 o)) 2 _ rfl; have qb3 := fun o => blk_cell (blk_up KB.out (up_alloc w4 o)) 3 _ rfl; have gb0 := fun o => blk_frozen (blk_up KB.out (up_alloc w4 o)) 0; have gb1 := fun o => blk_frozen (blk_up KB.out (up_alloc w4 o)) 1; have gb2 := fun o => blk_frozen (blk_up KB.out (up_alloc w4 o)) 2; have gb3 := fun o => blk_frozen (blk_up KB.out (up_alloc w4 o)) 3; have nb1 := Nat.ne_of_lt (blk_lt KB.out); have nb2 := Nat.ne_of_gt (blk_lt KB.out))
      | (go_at_call 9; with_reducible refine (C9.out _ (up_al (up_al u3.out (.cells #[.slice none 0 0, .int .i64 0, .int .i64 0] 30)) (.cells #[.slice none 0 0, .slice none 0 0, .int .i64 0, .int .i64 0] 33))).mono ?_; rintro e w4 ⟨a4, n4, c4, a5, n5, c5, rfl, I4, M4, u4, v4⟩; have O4 := hid ((O3.out.up (up_al (up_alloc _ _) _)).up v4.out); have KA := hid (blk_up (twoa w3 (.cells #[.slice none 0 0, .int .i64 0, .int .i64 0] 30) (.cells #[.slice none 0 0, .slice none 0 0, .int .i64 0, .int .i64 0] 33)) v4.out); have KB := hid (blk_up (twob w3 (.cells #[.slice none 0 0, .int .i64 0, .int .i64 0] 30) (.cells #[.slice none 0 0, .slice none 0 0, .int .i64 0, .int .i64 0] 33)) v4.out); have ra0 := blk_cell KA.out 0 _ rfl; have ra1 := blk_cell KA.out 1 _ rfl; have ra2 := blk_cell KA.out 2 _ rfl; have fa0 := blk_frozen KA.out 0; have fa1 := blk_frozen KA.out 1; have fa2 := blk_frozen KA.out 2; have qa0 := fun o => blk_cell (blk_up KA.out (up_alloc w4 o)) 0 _ rfl; have qa1 := fun o => blk_cell (blk_up KA.out (up_alloc w4 o)) 1 _ rfl; have qa2 := fun o => blk_cell (blk_up KA.out (up_alloc w4 o)) 2 _ rfl; have ga0 := fun o => blk_frozen (blk_up KA.out (up_alloc w4 o)) 0; have ga1 := fun o => blk_frozen (blk_up KA.out (up_alloc w4 o)) 1; have ga2 := fun o => blk_frozen (blk_up KA.out (up_alloc w4 o)) 2; have na1 := Nat.ne_of_lt (blk_lt KA.out); have na2 := Nat.ne_of_gt (blk_lt KA.out); have rb0 := blk_cell KB.out 0 _ rfl; have rb1 := blk_cell KB.out 1 _ rfl; have rb2 := blk_cell KB.out 2 _ rfl; have rb3 := blk_cell KB.out 3 _ rfl; have fb0 := blk_frozen KB.out 0; have fb1 := blk_frozen KB.out 1; have fb2 := blk_frozen KB.out 2; have fb3 := blk_frozen KB.out 3; have qb0 := fun o => blk_cell (blk_up KB.out (up_alloc w4 o)) 0 _ rfl; have qb1 := fun o => blk_cell (blk_up KB.out (up_alloc w4 o)) 1 _ rfl; have qb2 := fun o => blk_cell (blk_up KB.out (up_alloc w4 o)) 2 _ rfl; have qb3 := fun o => blk_cell (blk_up KB.out (up_alloc w4 o)) 3 _ rfl; have gb0 := fun o => blk_frozen (blk_up KB.out (up_alloc w4 o)) 0; have gb1 := fun o => blk_frozen (blk_up KB.out (up_alloc w4 o)) 1; have gb2 := fun o => blk_frozen (blk_up KB.out (up_alloc w4 o)) 2; have gb3 := fun o => blk_frozen (blk_up KB.out (up_alloc w4 o)) 3; have nb1 := Nat.ne_of_lt (blk_lt KB.out); have nb2 := Nat.ne_of_gt (blk_lt KB.out))
      | (go_at_call 9; with_reducible refine (C9.out _ (up_al (up_al u3.out (.cells #[.slice none 0 0, .slice none 0 0, .int .i64 0, .int .i64 0] 33)) (.cells #[.slice none 0 0, .int .i64 0, .int .i64 0] 30))).mono ?_; rintro e w4 ⟨a4, n4, c4, a5, n5, c5, rfl, I4, M4, u4, v4⟩; have O4 := hid ((O3.out.up (up_al (up_alloc _ _) _)).up v4.out); have KB := hid (blk_up (twoa w3 (.cells #[.slice none 0 0, .slice none 0 0, .int .i64 0, .int .i64 0] 33) (.cells #[.slice none 0 0, .int .i64 0, .int .i64 0] 30)) v4.out); have KA := hid (blk_up (twob w3 (.cells #[.slice none 0 0, .slice none 0 0, .int .i64 0, .int .i64 0] 33) (.cells #[.slice none 0 0, .int .i64 0, .int .i64 0] 30)) v4.out); have ra0 := blk_cell KA.out 0 _ rfl; have ra1 := blk_cell KA.out 1 _ rfl; have ra2 := blk_cell KA.out 2 _ rfl; have fa0 := blk_frozen KA.out 0; have fa1 := blk_frozen KA.out 1; have fa2 := blk_frozen KA.out 2; have qa0 := fun o => blk_cell (blk_up KA.out (up_alloc w4 o)) 0 _ rfl; have qa1 := fun o => blk_cell (blk_up KA.out (up_alloc w4 o)) 1 _ rfl; have qa2 := fun o => blk_cell (blk_up KA.out (up_alloc w4 o)) 2 _ rfl; have ga0 := fun o => blk_frozen (blk_up KA.out (up_alloc w4 o)) 0; have ga1 := fun o => blk_frozen (blk_up KA.out (up_alloc w4 o)) 1; have ga2 := fun o => blk_frozen (blk_up KA.out (up_alloc w4 o)) 2; have na1 := Nat.ne_of_lt (blk_lt KA.out); have na2 := Nat.ne_of_gt (blk_lt KA.out); have rb0 := blk_cell KB.out 0 _ rfl; have rb1 := blk_cell KB.out 1 _ rfl; have rb2 := blk_cell KB.out 2 _ rfl; have rb3 := blk_cell KB.out 3 _ rfl; have fb0 := blk_frozen KB.out 0; have fb1 := blk_frozen KB.out 1; have fb2 := blk_frozen KB.out 2; have fb3 := blk_frozen KB.out 3; have qb0 := fun o => blk_cell (blk_up KB.out (up_alloc w4 o)) 0 _ rfl; have qb1 := fun o => blk_cell (blk_up KB.out (up_alloc w4 o)) 1 _ rfl; have qb2 := fun o => blk_cell (blk_up KB.out (up_alloc w4 o)) 2 _ rfl; have qb3 := fun o => blk_cell (blk_up KB.out (up_alloc w4 o)) 3 _ rfl; have gb0 := fun o => blk_frozen (blk_up KB.out (up_alloc w4 o)) 0; have gb1 := fun o => blk_frozen (blk_up KB.out (up_alloc w4 o)) 1; have gb2 := fun o => blk_frozen (blk_up KB.out (up_alloc w4 o)) 2; have gb3 := fun o => blk_frozen (blk_up KB.out (up_alloc w4 o)) 3; have nb1 := Nat.ne_of_lt (blk_lt KB.out); have nb2 := Nat.ne_of_gt (blk_lt KB.out)))
    all_goals
      go_wp2_with fail
      go_meet
      case rel =>
        first
          | with_reducible exact ⟨_, _, rfl, rfl, fin_ab O4.out I4.out M4.out u4.out⟩
          | with_reducible exact ⟨_, _, rfl, rfl, fin_ba O4.out I4.out M4.out u4.out⟩
          | with_reducible exact ⟨_, _, rfl, rfl, (fin_both KA.out KB.out (by first | exact nk1 | exact nk2 | exact na1 | exact nb2 | omega) O4.out I4.out M4.out u4.out (by (first | exact Nat.le_refl _ | exact u3.out.size | exact u4.out.size | exact Nat.le_succ _ | exact Nat.le_succ_of_le u3.out.size | exact Nat.le_succ_of_le u4.out.size)) (by (first | exact Nat.le_refl _ | exact u3.out.size | exact u4.out.size | exact Nat.le_succ _ | exact Nat.le_succ_of_le u3.out.size | exact Nat.le_succ_of_le u4.out.size)))⟩
          | with_reducible exact ⟨_, _, rfl, rfl, (fin_both (W := w4.alloc (.cells #[.slice none 0 0, .slice none 0 0, .int .i64 0, .int .i64 0] 33)) (blk_up KA.out (up_alloc _ _)) (blk_new _ _) na1 (O4.out.up (up_alloc _ _)) (I4.out.up (up_alloc _ _)) (M4.out.up (up_alloc _ _)) (up_al u4.out _) (by (first | exact Nat.le_refl _ | exact u3.out.size | exact u4.out.size | exact Nat.le_succ _ | exact Nat.le_succ_of_le u3.out.size | exact Nat.le_succ_of_le u4.out.size)) (by (first | exact Nat.le_refl _ | exact u3.out.size | exact u4.out.size | exact Nat.le_succ _ | exact Nat.le_succ_of_le u3.out.size | exact Nat.le_succ_of_le u4.out.size)))⟩
          | with_reducible exact ⟨_, _, rfl, rfl, (fin_edit (W := w4.alloc (.cells #[.slice a3 n3 c3, .int .i64 seq, .int .i64 next] 30)) (blk_new _ _) (blk_up KB.out (up_alloc _ _)) nb2 (O4.out.up (up_alloc _ _)) (I4.out.up (up_alloc _ _)) (M4.out.up (up_alloc _ _)) (up_al u4.out _) (by (first | exact Nat.le_refl _ | exact u3.out.size | exact u4.out.size | exact Nat.le_succ _ | exact Nat.le_succ_of_le u3.out.size | exact Nat.le_succ_of_le u4.out.size)))⟩
  case rest =>
    obtain ⟨NX, NY, rfl, rfl, HX, HY, UC⟩ := hcut
    obtain ⟨ax, nx, cx, hbx, hox⟩ := HX.out
    obtain ⟨ad, nd, cd, am, nm, cm, hby, hod, hom⟩ := HY.out
    have BX : Hid (wc.heap[NX]? = some (.cells #[.slice ax nx cx, .int .i64 seq, .int .i64 next] 30)) := hbx
    have BY : Hid (wc.heap[NY]? = some (.cells #[.slice ad nd cd, .slice am nm cm, .int .i64 seq2, .int .i64 next2] 33)) := hby
    have OX : Hid (OwnR wc w1.heap.size 65 5 (.slice ax nx cx) (ts.map meRow)) := hox
    have OD : Hid (OwnR wc w1.heap.size 3 1 (.slice ad nd cd) (drop.map irow)) := hod
    have OM : Hid (OwnR wc w1.heap.size 65 5 (.slice am nm cm) (add.map meRow)) := hom
    clear hbx hby hox hod hom HX HY C8 C9 HCE x0 x1 x2 y0 y1 y2 y3
    have hx63 : (nx : Int) ≤ 9223372036854775807 := by obtain ⟨_, _, e, h4, h5⟩ := (Rws.own OX.out).len; simp only [Value.slice.injEq] at e; unfold maxLen at h5; omega
    have hd63 : (nd : Int) ≤ 9223372036854775807 := by obtain ⟨_, _, e, h4, h5⟩ := (Rws.own OD.out).len; simp only [Value.slice.injEq] at e; unfold maxLen at h5; omega
    have hm63 : (nm : Int) ≤ 9223372036854775807 := by obtain ⟨_, _, e, h4, h5⟩ := (Rws.own OM.out).len; simp only [Value.slice.injEq] at e; unfold maxLen at h5; omega
    have HGX : Hid (∀ g, ax = some ⟨g, 0, none⟩ → g < wc.heap.size) := fun g h => (OX.out.2.lt g (by rw [h]; rfl)).2
    have HGD : Hid (∀ g, ad = some ⟨g, 0, none⟩ → g < wc.heap.size) := fun g h => (OD.out.2.lt g (by rw [h]; rfl)).2
    have HGM : Hid (∀ g, am = some ⟨g, 0, none⟩ → g < wc.heap.size) := fun g h => (OM.out.2.lt g (by rw [h]; rfl)).2
    obtain ⟨p0, p1, p2, q0, q1, q2, q3⟩ := seven BX.out BY.out
    have HAP := hid (apply_any ts seq next drop add seq2 next2 ax ad am nx cx nd cd nm cm wc (Rws.own OX.out) (Rws.own OD.out) (Rws.own OM.out) HDI.out hal)
    have HRA : Hid (∀ W, Below w.heap.size w W → Calls Try.prog 11 #[.agg #[.slice va vn vc, .int .i64 seq, .int .i64 next], .agg #[.slice da dn dc, .slice aa an ac, .int .i64 seq2, .int .i64 next2]] W (AppR W (appM ts seq next drop add seq2 next2) seq2 next2)) := fun W h => refApply_any ts seq next drop add seq2 next2 va da aa vn vc dn dc an ac W (HV.out.up h) (HD.out.up h) (HA.out.up h)
    unfold AppE at HAP
    unfold AppR at HRA
    generalize appM ts seq next drop add seq2 next2 = R at *
    obtain ⟨R1, R2⟩ := R
    simp only at HAP HRA
    obtain ⟨S1, hS1⟩ : ∃ S1, (if R2 = 0 then seq2 else 0) = S1 := ⟨_, rfl⟩
    obtain ⟨X1, hX1⟩ : ∃ X1, (if R2 = 0 then next2 else 0) = X1 := ⟨_, rfl⟩
    rw [hS1, hX1] at HAP HRA
    clear hS1 hX1
    go_wp2_with fail
    refine HAP.out.mono ?_
    rintro e w2 ⟨a2, n2, c2, rfl, hO2, u2⟩
    have O2 : Hid (OwnR w2 wc.heap.size 65 5 (.slice a2 n2 c2) (R1.map meRow)) := hO2
    have u2' := hid u2
    obtain ⟨w3, hw3⟩ : ∃ w3, w3 = w2.alloc (.cells #[.slice a2 n2 c2, .int .i64 S1, .int .i64 X1] 30) := ⟨_, rfl⟩
    have HW3 : Hid (w2.alloc (.cells #[.slice a2 n2 c2, .int .i64 S1, .int .i64 X1] 30) = w3) := hw3.symm
    have u3 : Hid (Below w2.heap.size w2 w3) := by rw [hw3]; exact up_alloc _ _
    have B3 : Hid (w3.heap[w2.heap.size]? = some (.cells #[.slice a2 n2 c2, .int .i64 S1, .int .i64 X1] 30)) := by rw [hw3]; exact blk_new _ _
    clear hw3 hO2 u2 HAP p0 p1 p2 q0 q1 q2 q3
    go_upto_region 5 with fail
    rw [HW3.out]
    clear HW3
    have uc3 := hid (up_trans u2'.out u3.out)
    have O3 := hid (O2.out.up u3.out)
    have HN7 : Hid (wc.heap.size ≤ w2.heap.size) := u2'.out.size
    clear O2 u2' u3
    generalize w2.heap.size = N7 at *
    clear w2
    have U3 : Hid (Below w.heap.size w w3) := up_trans U1.out (up_trans UC.out uc3.out)
    obtain ⟨x0, x1, x2, y0, y1, y2, y3⟩ := seven (blk_up (blk_up B0.out UC.out) uc3.out) (blk_up (blk_up B1.out UC.out) uc3.out)
    go_wp2_with fail
    refine (HRA.out w3 U3.out).mono ?_
    rintro e w4 ⟨a4, n4, c4, rfl, hO4, u4⟩
    have O4 : Hid (OwnR w4 w3.heap.size 74 5 (.slice a4 n4 c4) (R1.map meRow)) := hO4
    have u4' := hid u4
    obtain ⟨w5, hw5⟩ : ∃ w5, w5 = w4.alloc (.cells #[.slice a4 n4 c4, .int .i64 S1, .int .i64 X1] 24) := ⟨_, rfl⟩
    have HW5 : Hid (w4.alloc (.cells #[.slice a4 n4 c4, .int .i64 S1, .int .i64 X1] 24) = w5) := hw5.symm
    have u5 : Hid (Below w4.heap.size w4 w5) := by rw [hw5]; exact up_alloc _ _
    have B5 : Hid (w5.heap[w4.heap.size]? = some (.cells #[.slice a4 n4 c4, .int .i64 S1, .int .i64 X1] 24)) := by rw [hw5]; exact blk_new _ _
    clear hw5 hO4 u4 x0 x1 x2 y0 y1 y2 y3
    go_upto_region 6 with fail
    rw [HW5.out]
    clear HW5
    have uc5 := hid (up_trans uc3.out (up_trans u4'.out u5.out))
    have O5 : Hid (OwnR w5 wc.heap.size 74 5 (.slice a4 n4 c4) (R1.map meRow)) := (O4.out.up u5.out).mono uc3.out.size
    have A5 := hid ((O3.out.up u4'.out).up u5.out)
    have B7 := hid (blk_up (blk_up B3.out u4'.out) u5.out)
    have HN9 : Hid (wc.heap.size ≤ w4.heap.size) := Nat.le_trans uc3.out.size u4'.out.size
    clear O4 O3 u4' u5 B3 HRA U3
    generalize w4.heap.size = N9 at *
    clear w4
    have HSP : Hid (SpI w1 w5 w5 wc.heap.size NX NY #[.slice ax nx cx, .int .i64 seq, .int .i64 next] #[.slice ad nd cd, .slice am nm cm, .int .i64 seq2, .int .i64 next2] (.slice ax nx cx) (.slice ad nd cd) (.slice am nm cm)) := ⟨fun k _ => rfl, up_trans UC.out uc5.out, blk_up BX.out uc5.out, blk_up BY.out uc5.out, (OwnR.shp OX.out).up uc5.out, (OwnR.shp OD.out).up uc5.out, (OwnR.shp OM.out).up uc5.out⟩
    clear BX BY OX OD OM
    have p0 := blk_cell HSP.out.bx 0 _ rfl
    go_wp2_with fail
    clear p0
    go_loopw [11] (fun i wr => ∃ k : Nat, k ≤ nx ∧ i = .int .i64 (k : Int) ∧ Hid (SpI w1 w5 wr wc.heap.size NX NY #[.slice ax nx cx, .int .i64 seq, .int .i64 next] #[.slice ad nd cd, .slice am nm cm, .int .i64 seq2, .int .i64 next2] (.slice ax nx cx) (.slice ad nd cd) (.slice am nm cm))) (fun i _ => nx - (intOf i).toNat)
    case atStart => exact ⟨0, Nat.zero_le _, rfl, HSP⟩
    case round =>
      clear HSP
      obtain ⟨k, hk, rfl, HSP⟩ := hrel
      have b0 := blk_cell HSP.out.bx 0 _ rfl
      by_cases hkl : k < nx
      · have hkl' : (k : Int) < (nx : Int) := by omega
        rcases HSP.out.sx with ⟨_, q⟩ | ⟨g, n', cap, cur, q, hb, hcur, hc1, hc2, hc3⟩
        · simp only [Value.slice.injEq] at q
          omega
        · simp only [Value.slice.injEq] at q
          obtain ⟨rfl, rfl, rfl⟩ := q
          have hgl : g < wc.heap.size := HGX.out g rfl
          obtain ⟨v0, k0⟩ := cell_in hcur (k * 5) (by omega)
          have f0 := blk_frozen hcur (k * 5)
          obtain ⟨v1, k1⟩ := cell_in hcur (k * 5 + 1) (by omega)
          have f1 := blk_frozen hcur (k * 5 + 1)
          obtain ⟨v2, k2⟩ := cell_in hcur (k * 5 + 2) (by omega)
          have f2 := blk_frozen hcur (k * 5 + 2)
          obtain ⟨v3, k3⟩ := cell_in hcur (k * 5 + 3) (by omega)
          have f3 := blk_frozen hcur (k * 5 + 3)
          obtain ⟨v4, k4⟩ := cell_in hcur (k * 5 + 4) (by omega)
          have f4 := blk_frozen hcur (k * 5 + 4)
          have HSP2 := hid (HSP.out.set5 hcur hb hgl (k * 5) (k * 5 + 1) (k * 5 + 2) (k * 5 + 3) (k * 5 + 4) (.int .i64 0) (.int .i64 0) (.int .i64 0) (.string ⟨#[]⟩) (.string ⟨#[]⟩))
          clear HSP hcur
          go_wp2_with fail
          exact ⟨⟨k + 1, by omega, by go_num, HSP2⟩, by simp [intOf]; omega⟩
      · have hkl' : ¬ (k : Int) < (nx : Int) := by omega
        go_wp2_with fail
        clear b0
        go_loopw [12] (fun i wr => ∃ k : Nat, k ≤ nm ∧ i = .int .i64 (k : Int) ∧ Hid (SpI w1 w5 wr wc.heap.size NX NY #[.slice ax nx cx, .int .i64 seq, .int .i64 next] #[.slice ad nd cd, .slice am nm cm, .int .i64 seq2, .int .i64 next2] (.slice ax nx cx) (.slice ad nd cd) (.slice am nm cm))) (fun i _ => nm - (intOf i).toNat)
        case atStart => exact ⟨0, Nat.zero_le _, rfl, HSP⟩
        case round =>
          clear HSP
          obtain ⟨k, hk, rfl, HSP⟩ := hrel
          have b0 := blk_cell HSP.out.bY 1 _ rfl
          by_cases hkl : k < nm
          · have hkl' : (k : Int) < (nm : Int) := by omega
            rcases HSP.out.sm with ⟨_, q⟩ | ⟨g, n', cap, cur, q, hb, hcur, hc1, hc2, hc3⟩
            · simp only [Value.slice.injEq] at q
              omega
            · simp only [Value.slice.injEq] at q
              obtain ⟨rfl, rfl, rfl⟩ := q
              have hgl : g < wc.heap.size := HGM.out g rfl
              obtain ⟨v0, k0⟩ := cell_in hcur (k * 5) (by omega)
              have f0 := blk_frozen hcur (k * 5)
              obtain ⟨v1, k1⟩ := cell_in hcur (k * 5 + 1) (by omega)
              have f1 := blk_frozen hcur (k * 5 + 1)
              obtain ⟨v2, k2⟩ := cell_in hcur (k * 5 + 2) (by omega)
              have f2 := blk_frozen hcur (k * 5 + 2)
              obtain ⟨v3, k3⟩ := cell_in hcur (k * 5 + 3) (by omega)
              have f3 := blk_frozen hcur (k * 5 + 3)
              obtain ⟨v4, k4⟩ := cell_in hcur (k * 5 + 4) (by omega)
              have f4 := blk_frozen hcur (k * 5 + 4)
              have HSP2 := hid (HSP.out.set5 hcur hb hgl (k * 5) (k * 5 + 1) (k * 5 + 2) (k * 5 + 3) (k * 5 + 4) (.int .i64 0) (.int .i64 0) (.int .i64 0) (.string ⟨#[]⟩) (.string ⟨#[]⟩))
              clear HSP hcur
              go_wp2_with fail
              exact ⟨⟨k + 1, by omega, by go_num, HSP2⟩, by simp [intOf]; omega⟩
          · have hkl' : ¬ (k : Int) < (nm : Int) := by omega
            go_wp2_with fail
            clear b0
            go_loopw [13] (fun i wr => ∃ k : Nat, k ≤ nd ∧ i = .int .i64 (k : Int) ∧ Hid (SpI w1 w5 wr wc.heap.size NX NY #[.slice ax nx cx, .int .i64 seq, .int .i64 next] #[.slice ad nd cd, .slice am nm cm, .int .i64 seq2, .int .i64 next2] (.slice ax nx cx) (.slice ad nd cd) (.slice am nm cm))) (fun i _ => nd - (intOf i).toNat)
            case atStart => exact ⟨0, Nat.zero_le _, rfl, HSP⟩
            case round =>
              clear HSP
              obtain ⟨k, hk, rfl, HSP⟩ := hrel
              have b0 := blk_cell HSP.out.bY 0 _ rfl
              by_cases hkl : k < nd
              · have hkl' : (k : Int) < (nd : Int) := by omega
                rcases HSP.out.sd with ⟨_, q⟩ | ⟨g, n', cap, cur, q, hb, hcur, hc1, hc2, hc3⟩
                · simp only [Value.slice.injEq] at q
                  omega
                · simp only [Value.slice.injEq] at q
                  obtain ⟨rfl, rfl, rfl⟩ := q
                  have hgl : g < wc.heap.size := HGD.out g rfl
                  obtain ⟨v0, k0⟩ := cell_in hcur k (by omega)
                  have f0 := blk_frozen hcur k
                  have HSP2 := hid (HSP.out.set hcur (by decide) (by decide) hb hgl k (.int .i64 (-1)))
                  clear HSP hcur
                  go_wp2_with fail
                  exact ⟨⟨k + 1, by omega, by go_num, HSP2⟩, by simp [intOf]; omega⟩
              · have hkl' : ¬ (k : Int) < (nd : Int) := by omega
                have B7r : Hid (wr.heap[N7]? = some (.cells #[.slice a2 n2 c2, .int .i64 S1, .int .i64 X1] 30)) := by unfold Hid; rw [HSP.out.keep N7 HN7.out]; exact B7.out
                have B9r : Hid (wr.heap[N9]? = some (.cells #[.slice a4 n4 c4, .int .i64 S1, .int .i64 X1] 24)) := by unfold Hid; rw [HSP.out.keep N9 HN9.out]; exact B5.out
                have HAK := hid (alike_self R1 S1 X1 a2 a4 n2 c2 n4 c4 wr (Rws.own (A5.out.keep HSP.out.keep)) (Rws.own (O5.out.keep HSP.out.keep)))
                have HNU : Hid (∀ n w, Calls Try.prog 17 #[.int .i64 n] w fun e w' => e = .returned (.int .i64 n) ∧ w' = w) := num_any
                have UR : Hid (Below w.heap.size w wr) := up_trans U1.out HSP.out.low
                have p0 := blk_cell B7r.out 0 _ rfl
                have p1 := blk_cell B7r.out 1 _ rfl
                have p2 := blk_cell B7r.out 2 _ rfl
                have q0 := blk_cell B9r.out 0 _ rfl
                have q1 := blk_cell B9r.out 1 _ rfl
                have q2 := blk_cell B9r.out 2 _ rfl
                have hR2 : (R2 == R2) = true := by simp
                go_wp2_with fail
                refine (HNU.out _ _).mono ?_
                rintro e w6 ⟨rfl, hw6⟩
                subst hw6
                go_wp2_with fail
                refine HAK.out.mono ?_
                rintro e w7 ⟨rfl, u7⟩
                go_wp2_with fail
                go_ret
                exact ⟨rfl, up_trans UR.out u7.out⟩

end Go.Proofs.Ytbknoplfjfnbcaa
