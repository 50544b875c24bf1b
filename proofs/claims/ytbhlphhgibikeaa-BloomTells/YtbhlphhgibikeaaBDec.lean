/- Decode: octets as a filter, the program's and the document's. -/
import Derived.Test.YtbhlphhgibikeaaBCode
namespace Go.Proofs.Ytbhlphhgibikeaa
open Go.RowKit
set_option linter.unusedVariables false

/-- What is read: K, the bits, the error. -/
def decF (l : List Int) : Int × List Int × Int :=
  if l.length < 2 then (0, [], 8) else if mayB (l.getD 0 0) (l.length - 1) then (l.getD 0 0, l.drop 1, 0) else (0, [], 9)

theorem Octs.rest {w : World} {b off n cap : Nat} {l : List Int} (h : Octs w (.slice (some ⟨b, off, none⟩) n cap) l) (hn : 1 ≤ l.length) (hl : l.length = n) : Octs w (.slice (some ⟨b, off + 1, none⟩) (n - 1) (cap - 1)) (l.drop 1) := by
  obtain ⟨hx, h⟩ := h
  refine ⟨fun x hxx => hx x (List.mem_of_mem_drop hxx), ?_⟩
  rcases h with ⟨e, _⟩ | ⟨hne, b', off', cap', e, hc, hm, hj⟩
  · rw [e] at hn; simp at hn
  · simp at e
    obtain ⟨⟨rfl, rfl⟩, e2, rfl⟩ := e
    by_cases h1 : l.length = 1
    · have e1 : n - 1 = 0 := by omega
      rw [e1]
      exact .inl ⟨by rw [List.drop_eq_nil_iff]; omega, _, _, rfl, fun h => by cases h⟩
    · refine .inr ⟨?_, b, off + 1, cap - 1, ?_, ?_, by omega, ?_⟩
      · intro e
        rw [List.drop_eq_nil_iff] at e
        omega
      · rw [List.length_drop, hl]
      · rw [List.length_drop]; omega
      · intro j x hjx
        rw [List.getElem?_drop] at hjx
        have := hj (1 + j) x hjx
        rw [show off + 1 + j = off + (1 + j) by omega]
        exact this

theorem World.cell?_alloc_of {w : World} {a : Addr} {x : Value} (h : w.cell? a = some x) (o : Obj) : (w.alloc o).cell? a = some x := by
  have := (up_alloc w o).cell (World.block_lt_of_cell? w a h)
  rw [this]
  exact h

theorem cell_two {W : World} {b off N : Nat} {x : Value} (hne : b ≠ N) (h : W.cell? ⟨b, off, none⟩ = some x) (u1 u2 : Value) : ((W.setCell ⟨N, 0, none⟩ u1).setCell ⟨N, 1, none⟩ u2).cell? ⟨b, off, none⟩ = some x :=
  (set2_grown W N u1 u2).cell h (by simp; exact hne)

set_option maxHeartbeats 1000000 in
theorem decode_any (l : List Int) (v : Value) (w : World) (hv : Octs w v l) (hl : l.length ≤ 140737488355328) :
    Calls Try.prog 24 #[v] w fun e w' => ∃ a' n' c', e = .returned (.tuple #[.agg #[.int .i64 (decF l).1, .slice a' n' c'], .int .i64 (decF l).2.2]) ∧ n' = (decF l).2.1.length ∧ OwnB w' w.heap.size (.slice a' n' c') (decF l).2.1 ∧ Below w.heap.size w w' := by
  obtain ⟨a, c, e, hcap, hmax⟩ := hv.len
  by_cases h2 : l.length < 2
  · have hd : decF l = (0, [], 8) := by unfold decF; rw [if_pos h2]
    rw [hd, e]
    have h2' : (l.length : Int) < 2 := by omega
    clear hv hd
    go_enter Try.func24, Try.ntmps24
    go_wp2
    refine bodyPost_ret (results_fil rfl (.inl rfl) _ _ rfl (blk_new _ _)) rfl ?_
    exact ⟨none, 0, 0, rfl, rfl, OwnB.nil _ _, up_alloc _ _⟩
  · have h2' : ¬ (l.length : Int) < 2 := by omega
    obtain ⟨b, off, cap, e', hc', hm', hcell⟩ := hv.at 0 (by omega)
    rw [e] at e' hv ⊢
    simp at e'
    obtain ⟨rfl, rfl⟩ := e'
    have hR := hv.rest (by omega) rfl
    obtain ⟨x0, x1⟩ := hv.oct 0 (by omega)
    have hd : decF l = if mayB (l.getD 0 0) (l.length - 1) then (l.getD 0 0, l.drop 1, 0) else (0, [], 9) := by unfold decF; rw [if_neg h2]
    have HLD : Hid ((l.drop 1).length = l.length - 1) := by unfold Hid; rw [List.length_drop]
    clear e
    generalize l.getD 0 0 = x at *
    obtain ⟨n, hn⟩ : ∃ n, n = l.length := ⟨_, rfl⟩
    rw [← hn] at h2' hR hd HLD hcap hmax hl ⊢
    have HR : Hid (Octs w (.slice (some ⟨b, off + 1, none⟩) (n - 1) (c - 1)) (l.drop 1)) := hR
    have HMB : Hid (∀ w : World, Calls Try.prog 30 #[.agg #[.int .i64 x, .slice (some ⟨b, off + 1, none⟩) (n - 1) (c - 1)]] w fun e w' => e = .returned (.bool (mayB x (n - 1))) ∧ w' = w.alloc (.cells #[.int .i64 x, .slice (some ⟨b, off + 1, none⟩) (n - 1) (c - 1)] 27)) := fun w => mayBe_any x _ _ _ w
    have hn2 : 2 ≤ n := by omega
    have hc2 : n ≤ c := hcap
    generalize l.drop 1 = r at *
    rw [Nat.add_zero] at hcell
    clear hn hv hR h2
    have hcA : ∀ o, (w.alloc o).cell? ⟨b, off, none⟩ = some (.int .u8 x) := fun o => World.cell?_alloc_of hcell o
    have hcB : ∀ o o', ((w.alloc o).alloc o').cell? ⟨b, off, none⟩ = some (.int .u8 x) := fun o o' => World.cell?_alloc_of (hcA o) o'
    have hcC : ∀ o, (w.alloc o).drew.cell? ⟨b, off, none⟩ = some (.int .u8 x) := hcA
    have hcD : ∀ o o', ((w.alloc o).alloc o').drew.cell? ⟨b, off, none⟩ = some (.int .u8 x) := hcB
    have h0n : 0 < n := by omega
    go_enter Try.func24, Try.ntmps24
    go_wp2_with fail
    go_region
    all_goals go_wp2_with fail
    refine (HMB.out _).mono ?_
    rintro e w1 ⟨rfl, rfl⟩
    have U3 : Below w.heap.size w ((((w.alloc (.cells #[.int .i64 0, .slice none 0 0] 27)).alloc (.cells #[.int .i64 x, .slice (some ⟨b, off + 1, none⟩) (n - 1) (c - 1)] 27)).drew).alloc (.cells #[.int .i64 x, .slice (some ⟨b, off + 1, none⟩) (n - 1) (c - 1)] 27)) := up_al (up_dr (up_al (up_alloc _ _) _)) _
    have B0 : ((((w.alloc (.cells #[.int .i64 0, .slice none 0 0] 27)).alloc (.cells #[.int .i64 x, .slice (some ⟨b, off + 1, none⟩) (n - 1) (c - 1)] 27)).drew).alloc (.cells #[.int .i64 x, .slice (some ⟨b, off + 1, none⟩) (n - 1) (c - 1)] 27)).heap[w.heap.size]? = some (.cells #[.int .i64 0, .slice none 0 0] 27) := blk_al (blk_up (blk_al (blk_nw _ _ rfl) _) (up_dr (Below.refl _ _))) _
    have B1 : ((((w.alloc (.cells #[.int .i64 0, .slice none 0 0] 27)).alloc (.cells #[.int .i64 x, .slice (some ⟨b, off + 1, none⟩) (n - 1) (c - 1)] 27)).drew).alloc (.cells #[.int .i64 x, .slice (some ⟨b, off + 1, none⟩) (n - 1) (c - 1)] 27)).heap[w.heap.size + 1]? = some (.cells #[.int .i64 x, .slice (some ⟨b, off + 1, none⟩) (n - 1) (c - 1)] 27) := blk_al (blk_up (blk_nw _ _ (by simp)) (up_dr (Below.refl _ _))) _
    generalize (((w.alloc (.cells #[.int .i64 0, .slice none 0 0] 27)).alloc (.cells #[.int .i64 x, .slice (some ⟨b, off + 1, none⟩) (n - 1) (c - 1)] 27)).drew).alloc (.cells #[.int .i64 x, .slice (some ⟨b, off + 1, none⟩) (n - 1) (c - 1)] 27) = W3 at *
    have q1 := blk_cell B0 0 _ rfl
    have q2 := blk_cell B0 1 _ rfl
    have q3 := blk_frozen B0 0
    have q4 := blk_frozen B0 1
    have q5 := blk_cell B1 0 _ rfl
    have q6 := blk_cell B1 1 _ rfl
    have q7 := blk_frozen B1 1
    have HB : Hid (Below w.heap.size w W3 ∧ W3.heap[w.heap.size]? = some (.cells #[.int .i64 0, .slice none 0 0] 27) ∧ W3.heap[w.heap.size + 1]? = some (.cells #[.int .i64 x, .slice (some ⟨b, off + 1, none⟩) (n - 1) (c - 1)] 27)) := ⟨U3, B0, B1⟩
    clear U3 B0 B1 hcA hcB hcC hcD hcell HMB
    cases hmay : mayB x (n - 1)
    · have HDD : Hid (decF l = (0, [], 9)) := by
        unfold Hid
        rw [hmay] at hd
        simpa using hd
      clear hd
      go_wp2
      have g2 := set2_grown W3 w.heap.size (.int .i64 0) (.slice none 0 0)
      refine bodyPost_ret (results_fil rfl (.inl rfl) _ _ rfl (set2_blk HB.out.2.1 (.int .i64 0) (.slice none 0 0))) rfl ?_
      rw [HDD.out]
      exact ⟨none, 0, 0, rfl, rfl, OwnB.nil _ _, HB.out.1.grown g2 HB.out.1.size (fun j hj => by simp at hj; omega)⟩
    · have HDD : Hid (decF l = (x, r, 0)) := by
        unfold Hid
        rw [hmay] at hd
        simpa using hd
      clear hd
      have HO3 : Hid (Octs W3 (.slice (some ⟨b, off + 1, none⟩) (n - 1) (c - 1)) r) := HR.out.up HB.out.1
      have hw3 : w.heap.size + 2 ≤ W3.heap.size := by have := blk_lt HB.out.2.2; omega
      go_wp2_with (at_builtin; refine wpList_append_octs _ rfl _ _ rfl (w.heap.size + 2) _ [] rfl (World.ownsRow_nil _ _ _ _) _ r rfl HO3.out ?c1 hw3 ?_)
      case c1 => rw [HLD.out]; simp; omega
      intro v' w' hown hg
      obtain ⟨a', nq, c', rfl, hq⟩ := own_shape hown
      have hg0 : W3.grownBy w' none := by simpa [Value.ownBlock] using hg
      have D0 := blk_grown HB.out.2.1 hg0 (by simp)
      have D1 := blk_grown HB.out.2.2 hg0 (by simp)
      have UB := HB.out.1.grown hg0 HB.out.1.size (fun j hj => by cases hj)
      have HD : Hid (Below w.heap.size w w' ∧ w'.heap[w.heap.size]? = some (.cells #[.int .i64 0, .slice none 0 0] 27) ∧ w'.heap[w.heap.size + 1]? = some (.cells #[.int .i64 x, .slice (some ⟨b, off + 1, none⟩) (n - 1) (c - 1)] 27) ∧ OwnB w' (w.heap.size + 2) (.slice a' nq c') r) := ⟨UB, D0, D1, hown⟩
      clear q1 q2 q3 q4 q5 q6 q7 HB HO3 hown hg hg0 UB
      have q1 := blk_cell D0 0 _ rfl
      have q2 := blk_cell D0 1 _ rfl
      have q3 := blk_frozen D0 0
      have q4 := blk_frozen D0 1
      have q5 := blk_cell D1 0 _ rfl
      have q6 := blk_cell D1 1 _ rfl
      have q7 := blk_frozen D1 1
      clear D0 D1
      go_wp2
      have g1 := grown_set w' ⟨w.heap.size + 1, 1, none⟩ (.slice a' nq c')
      have e0 := blk_grown HD.out.2.1 g1 (by simp)
      have o1 := HD.out.2.2.2.kept g1 (.inr fun e => by have := (HD.out.2.2.2.lt _ e).1; simp at this)
      have u1 := HD.out.1.grown g1 HD.out.1.size (fun j hj => by simp at hj; omega)
      generalize w'.setCell ⟨w.heap.size + 1, 1, none⟩ (.slice a' nq c') = w5 at *
      have g2 := set2_grown w5 w.heap.size (.int .i64 x) (.slice a' nq c')
      refine bodyPost_ret (results_fil rfl (.inl rfl) _ _ rfl (set2_blk e0 (.int .i64 x) (.slice a' nq c'))) rfl ?_
      rw [HDD.out]
      have o2 := o1.kept g2 (.inr fun e => by have := (o1.lt _ e).1; omega)
      exact ⟨a', nq, c', rfl, hq.out, OwnB.mono (base := w.heap.size + 2) o2 (by omega), u1.grown g2 u1.size (fun j hj => by simp at hj; omega)⟩

set_option maxHeartbeats 1000000 in
theorem refDecode_any (l : List Int) (v : Value) (w : World) (hv : Octs w v l) (hl : l.length ≤ 140737488355328) :
    Calls Try.prog 25 #[v] w fun e w' => ∃ a' n' c', e = .returned (.tuple #[.agg #[.int .i64 (decF l).1, .slice a' n' c'], .int .i64 (decF l).2.2]) ∧ n' = (decF l).2.1.length ∧ OwnB w' w.heap.size (.slice a' n' c') (decF l).2.1 ∧ Below w.heap.size w w' := by
  obtain ⟨a, c, e, hcap, hmax⟩ := hv.len
  by_cases h2 : l.length < 2
  · have hd : decF l = (0, [], 8) := by unfold decF; rw [if_pos h2]
    rw [hd, e]
    have h2' : (l.length : Int) < 2 := by omega
    clear hv hd
    go_enter Try.func25, Try.ntmps25
    go_wp2
    refine bodyPost_ret (results_fil rfl (.inr rfl) _ _ rfl (blk_new _ _)) rfl ?_
    exact ⟨none, 0, 0, rfl, rfl, OwnB.nil _ _, up_alloc _ _⟩
  · have h2' : ¬ (l.length : Int) < 2 := by omega
    obtain ⟨b, off, cap, e', hc', hm', hcell⟩ := hv.at 0 (by omega)
    rw [e] at e' hv ⊢
    simp at e'
    obtain ⟨rfl, rfl⟩ := e'
    have hR := hv.rest (by omega) rfl
    obtain ⟨x0, x1⟩ := hv.oct 0 (by omega)
    have hd : decF l = if mayB (l.getD 0 0) (l.length - 1) then (l.getD 0 0, l.drop 1, 0) else (0, [], 9) := by unfold decF; rw [if_neg h2]
    have HLD : Hid ((l.drop 1).length = l.length - 1) := by unfold Hid; rw [List.length_drop]
    clear e
    generalize l.getD 0 0 = x at *
    obtain ⟨n, hn⟩ : ∃ n, n = l.length := ⟨_, rfl⟩
    rw [← hn] at h2' hR hd HLD hcap hmax hl ⊢
    have HR : Hid (Octs w (.slice (some ⟨b, off + 1, none⟩) (n - 1) (c - 1)) (l.drop 1)) := hR
    have hn2 : 2 ≤ n := by omega
    have hc2 : n ≤ c := hcap
    generalize l.drop 1 = r at *
    rw [Nat.add_zero] at hcell
    clear hn hv hR h2
    have h0n : 0 < n := by omega
    have h1n : (1 : Int) ≤ (n : Int) := by omega
    have hnc : (n : Int) ≤ (c : Int) := by omega
    have hcA : ∀ o, (w.alloc o).cell? ⟨b, off, none⟩ = some (.int .u8 x) := fun o => World.cell?_alloc_of hcell o
    have hcB : ∀ o o', ((w.alloc o).alloc o').cell? ⟨b, off, none⟩ = some (.int .u8 x) := fun o o' => World.cell?_alloc_of (hcA o) o'
    have hcC : ∀ o, (w.alloc o).drew.cell? ⟨b, off, none⟩ = some (.int .u8 x) := hcA
    have hcD : ∀ o o', ((w.alloc o).alloc o').drew.cell? ⟨b, off, none⟩ = some (.int .u8 x) := hcB
    have hc1 : ¬ c = 1 := by omega
    have hwx : IntKind.i64.wrap x = x := by rw [IntKind.wrap_i64]; omega
    have HC : Hid (Calls Try.prog 32 #[.slice (some ⟨b, off + 1, none⟩) (n - 1) (c - 1)] (w.alloc (.cells #[.int .i64 0, .slice none 0 0] 25)).drew fun e w' => ∃ a' n' c', e = .returned (.slice a' n' c') ∧ w'.cell? ⟨b, off, none⟩ = some (.int .u8 x) ∧
        Hid (w'.heap[w.heap.size]? = some (.cells #[.int .i64 0, .slice none 0 0] 25)) ∧ Hid (n' = r.length) ∧ Hid (OwnB w' (w.heap.size + 1) (.slice a' n' c') r) ∧ Hid (Below w.heap.size w w')) := by
      have hW : Below w.heap.size w (w.alloc (.cells #[.int .i64 0, .slice none 0 0] 25)).drew := up_dr (up_alloc _ _)
      have hb0 : (w.alloc (.cells #[.int .i64 0, .slice none 0 0] 25)).drew.heap[w.heap.size]? = some (.cells #[.int .i64 0, .slice none 0 0] 25) := blk_up (blk_nw _ _ rfl) (up_dr (Below.refl _ _))
      have hs : (w.alloc (.cells #[.int .i64 0, .slice none 0 0] 25)).drew.heap.size = w.heap.size + 1 := by simp
      generalize (w.alloc (.cells #[.int .i64 0, .slice none 0 0] 25)).drew = W at *
      refine (copied_any r _ W (HR.out.up hW) (by rw [HLD.out]; omega)).mono ?_
      rintro e w' ⟨v', rfl, ho, hbw⟩
      obtain ⟨a', n', c', rfl, hn⟩ := own_shape ho
      refine ⟨a', n', c', rfl, ?_, blk_up hb0 hbw, hn, ?_, up_trans hW hbw⟩
      · rw [(up_trans hW hbw).cell (World.block_lt_of_cell? w _ hcell)]
        exact hcell
      · unfold Hid
        rw [hs] at ho
        exact ho
    have HC2 : Hid (Calls Try.prog 32 #[.slice (some ⟨b, off + 1, none⟩) (n - 1) (c - 1)] ((w.alloc (.cells #[.int .i64 0, .slice none 0 0] 25)).alloc (.cells #[.int .i64 0, .slice none 0 0] 25)).drew fun e w' => ∃ a' n' c', e = .returned (.slice a' n' c') ∧ w'.cell? ⟨b, off, none⟩ = some (.int .u8 x) ∧
        w'.cell? ⟨w.heap.size + 1, 0, none⟩ = some (.int .i64 0) ∧ w'.cell? ⟨w.heap.size + 1, 1, none⟩ = some (.slice none 0 0) ∧ w'.frozen? ⟨w.heap.size + 1, 0, none⟩ = false ∧ w'.frozen? ⟨w.heap.size + 1, 1, none⟩ = false ∧
        Hid (w'.heap[w.heap.size]? = some (.cells #[.int .i64 0, .slice none 0 0] 25)) ∧ Hid (w'.heap[w.heap.size + 1]? = some (.cells #[.int .i64 0, .slice none 0 0] 25)) ∧ Hid (n' = r.length) ∧ Hid (OwnB w' (w.heap.size + 2) (.slice a' n' c') r) ∧ Hid (Below w.heap.size w w')) := by
      have hW : Below w.heap.size w ((w.alloc (.cells #[.int .i64 0, .slice none 0 0] 25)).alloc (.cells #[.int .i64 0, .slice none 0 0] 25)).drew := up_dr (up_al (up_alloc _ _) _)
      have hb0 : ((w.alloc (.cells #[.int .i64 0, .slice none 0 0] 25)).alloc (.cells #[.int .i64 0, .slice none 0 0] 25)).drew.heap[w.heap.size]? = some (.cells #[.int .i64 0, .slice none 0 0] 25) := blk_up (blk_al (blk_nw _ _ rfl) _) (up_dr (Below.refl _ _))
      have hb1 : ((w.alloc (.cells #[.int .i64 0, .slice none 0 0] 25)).alloc (.cells #[.int .i64 0, .slice none 0 0] 25)).drew.heap[w.heap.size + 1]? = some (.cells #[.int .i64 0, .slice none 0 0] 25) := blk_up (blk_nw _ _ (by simp)) (up_dr (Below.refl _ _))
      have hs : ((w.alloc (.cells #[.int .i64 0, .slice none 0 0] 25)).alloc (.cells #[.int .i64 0, .slice none 0 0] 25)).drew.heap.size = w.heap.size + 2 := by simp
      generalize ((w.alloc (.cells #[.int .i64 0, .slice none 0 0] 25)).alloc (.cells #[.int .i64 0, .slice none 0 0] 25)).drew = W at *
      refine (copied_any r _ W (HR.out.up hW) (by rw [HLD.out]; omega)).mono ?_
      rintro e w' ⟨v', rfl, ho, hbw⟩
      obtain ⟨a', n', c', rfl, hn⟩ := own_shape ho
      have d1 := blk_up hb1 hbw
      refine ⟨a', n', c', rfl, ?_, blk_cell d1 0 _ rfl, blk_cell d1 1 _ rfl, blk_frozen d1 0, blk_frozen d1 1, blk_up hb0 hbw, d1, hn, ?_, up_trans hW hbw⟩
      · rw [(up_trans hW hbw).cell (World.block_lt_of_cell? w _ hcell)]
        exact hcell
      · unfold Hid
        rw [hs] at ho
        exact ho
    have hbw : b ≠ w.heap.size + 1 := by have := World.block_lt_of_cell? w _ hcell; simp at this; omega
    go_enter Try.func25, Try.ntmps25
    go_wp2_with fail
    go_region_held3 (fun w' => w'.cell? ⟨b, off, none⟩ = some (.int .u8 x)) (first | with_reducible exact y0 | exact hcD _ _ | exact World.cell?_alloc_of y0 _ | exact cell_two hbw y0 _ _ | (simp [go_sem, y0]; done) | (simp [go_sem, hcA]; done)) (first
      | (go_at_call 32; with_reducible refine HC.out.mono ?_; rintro e w' ⟨a', n', c', rfl, y0, hb0, hn', ho, hb⟩)
      | (go_at_call 32; with_reducible refine HC2.out.mono ?_; rintro e w' ⟨a', n', c', rfl, y0, y1, y2, y3, y4, hb0, hb1, hn', ho, hb⟩))
    · have HT : Hid (Below w.heap.size w (w'.alloc (.cells #[.int .i64 x, .slice a' n' c'] 25)) ∧ (w'.alloc (.cells #[.int .i64 x, .slice a' n' c'] 25)).heap[w.heap.size]? = some (.cells #[.int .i64 0, .slice none 0 0] 25) ∧ (w'.alloc (.cells #[.int .i64 x, .slice a' n' c'] 25)).heap[w'.heap.size]? = some (.cells #[.int .i64 x, .slice a' n' c'] 25) ∧ OwnB (w'.alloc (.cells #[.int .i64 x, .slice a' n' c'] 25)) (w.heap.size + 1) (.slice a' n' c') r) := ⟨up_al hb.out _, blk_al hb0.out _, blk_new _ _, own_up ho.out (up_alloc _ _)⟩
      clear hcA hcB hcC hcD hcell HC HC2 hb0 ho hb
      generalize w'.alloc (.cells #[.int .i64 x, .slice a' n' c'] 25) = W5 at *
      generalize w'.heap.size = N at *
      have q5 := blk_cell HT.out.2.2.1 0 _ rfl
      have q6 := blk_cell HT.out.2.2.1 1 _ rfl
      have HCK : Hid (∀ W : World, Calls Try.prog 31 #[.agg #[.int .i64 x, .slice a' n' c']] W fun e w' => e = .returned (.int .i64 (chkE x n')) ∧ w' = W.alloc (.cells #[.int .i64 x, .slice a' n' c'] 25)) := fun W => check_any x a' n' c' W
      have hck : chkE x n' = if mayB x (n - 1) then 0 else 9 := by unfold chkE; rw [hn'.out, HLD.out]
      cases hmay : mayB x (n - 1)
      · have HDD : Hid (decF l = (0, [], 9)) := by
          unfold Hid
          rw [hmay] at hd
          simpa using hd
        rw [hmay] at hck
        simp at hck
        rw [hck] at HCK
        clear hd hck
        go_wp2_with fail
        refine (HCK.out _).mono ?_
        rintro e w1 ⟨rfl, rfl⟩
        have T2 := up_al (up_alloc W5 (.cells #[.int .i64 x, .slice a' n' c'] 25)) (.cells #[.int .i64 x, .slice a' n' c'] 25)
        have T1 := up_alloc W5 (.cells #[.int .i64 x, .slice a' n' c'] 25)
        have D0 := blk_up HT.out.2.1 T1
        have UB : Below w.heap.size w (W5.alloc (.cells #[.int .i64 x, .slice a' n' c'] 25)) := up_trans HT.out.1 T1
        clear T2 q5 q6
        generalize W5.alloc (.cells #[.int .i64 x, .slice a' n' c'] 25) = W6 at *
        have HD0 : Hid (W6.heap[w.heap.size]? = some (.cells #[.int .i64 0, .slice none 0 0] 25) ∧ Below w.heap.size w W6) := ⟨D0, UB⟩
        have q1 := blk_cell D0 0 _ rfl
        have q2 := blk_cell D0 1 _ rfl
        have q3 := blk_frozen D0 0
        have q4 := blk_frozen D0 1
        clear D0 UB T1
        go_wp2
        have g2 := set2_grown W6 w.heap.size (.int .i64 0) (.slice none 0 0)
        refine bodyPost_ret (results_fil rfl (.inr rfl) _ _ rfl (set2_blk HD0.out.1 (.int .i64 0) (.slice none 0 0))) rfl ?_
        rw [HDD.out]
        exact ⟨none, 0, 0, rfl, rfl, OwnB.nil _ _, HD0.out.2.grown g2 HD0.out.2.size (fun j hj => by simp at hj; omega)⟩
      · have HDD : Hid (decF l = (x, r, 0)) := by
          unfold Hid
          rw [hmay] at hd
          simpa using hd
        rw [hmay] at hck
        simp at hck
        rw [hck] at HCK
        clear hd hck
        go_wp2_with fail
        refine (HCK.out _).mono ?_
        rintro e w1 ⟨rfl, rfl⟩
        have T1 := up_alloc W5 (.cells #[.int .i64 x, .slice a' n' c'] 25)
        have D0 := blk_up HT.out.2.1 T1
        have D1 := blk_up HT.out.2.2.1 T1
        have O6 : OwnB (W5.alloc (.cells #[.int .i64 x, .slice a' n' c'] 25)) (w.heap.size + 1) (.slice a' n' c') r := own_up HT.out.2.2.2 T1
        have UB : Below w.heap.size w (W5.alloc (.cells #[.int .i64 x, .slice a' n' c'] 25)) := up_trans HT.out.1 T1
        clear q5 q6
        generalize W5.alloc (.cells #[.int .i64 x, .slice a' n' c'] 25) = W6 at *
        have HD0 : Hid (W6.heap[w.heap.size]? = some (.cells #[.int .i64 0, .slice none 0 0] 25) ∧ Below w.heap.size w W6 ∧ OwnB W6 (w.heap.size + 1) (.slice a' n' c') r) := ⟨D0, UB, O6⟩
        have q1 := blk_cell D0 0 _ rfl
        have q2 := blk_cell D0 1 _ rfl
        have q3 := blk_frozen D0 0
        have q4 := blk_frozen D0 1
        have q5 := blk_cell D1 0 _ rfl
        have q6 := blk_cell D1 1 _ rfl
        clear D0 UB T1 D1 O6
        go_wp2
        have g2 := set2_grown W6 w.heap.size (.int .i64 x) (.slice a' n' c')
        refine bodyPost_ret (results_fil rfl (.inr rfl) _ _ rfl (set2_blk HD0.out.1 (.int .i64 x) (.slice a' n' c'))) rfl ?_
        rw [HDD.out]
        have o2 := HD0.out.2.2.kept g2 (.inr fun e => by have := (HD0.out.2.2.lt _ e).1; omega)
        exact ⟨a', n', c', rfl, hn'.out, OwnB.mono (base := w.heap.size + 1) o2 (by omega), HD0.out.2.1.grown g2 HD0.out.2.1.size (fun j hj => by simp at hj; omega)⟩
    · have HT : Hid (Below w.heap.size w (set2 w' (w.heap.size + 1) (.int .i64 x) (.slice a' n' c')) ∧ (set2 w' (w.heap.size + 1) (.int .i64 x) (.slice a' n' c')).heap[w.heap.size]? = some (.cells #[.int .i64 0, .slice none 0 0] 25) ∧ (set2 w' (w.heap.size + 1) (.int .i64 x) (.slice a' n' c')).heap[w.heap.size + 1]? = some (.cells #[.int .i64 x, .slice a' n' c'] 25) ∧ OwnB (set2 w' (w.heap.size + 1) (.int .i64 x) (.slice a' n' c')) (w.heap.size + 1) (.slice a' n' c') r) := by
        have g := set2_grown w' (w.heap.size + 1) (.int .i64 x) (.slice a' n' c')
        refine ⟨hb.out.grown g hb.out.size (fun j hj => by simp at hj; omega), blk_grown hb0.out g (by simp), set2_blk hb1.out _ _, OwnB.mono (base := w.heap.size + 2) (ho.out.kept g (.inr fun e => ?_)) (by omega)⟩
        have := (ho.out.lt _ e).1
        omega
      clear hcA hcB hcC hcD hcell HC HC2 hb0 ho hb hb1 y1 y2 y3 y4
      change Exit.then _ _ Exit.normal _ (set2 w' (w.heap.size + 1) (.int .i64 x) (.slice a' n' c'))
      generalize set2 w' (w.heap.size + 1) (.int .i64 x) (.slice a' n' c') = W5 at *
      obtain ⟨N, hN⟩ : ∃ N, N = w.heap.size + 1 := ⟨_, rfl⟩
      rw [← hN] at HT ⊢
      have hNN : w.heap.size < N := by omega
      clear hN hbw
      have q5 := blk_cell HT.out.2.2.1 0 _ rfl
      have q6 := blk_cell HT.out.2.2.1 1 _ rfl
      have HCK : Hid (∀ W : World, Calls Try.prog 31 #[.agg #[.int .i64 x, .slice a' n' c']] W fun e w' => e = .returned (.int .i64 (chkE x n')) ∧ w' = W.alloc (.cells #[.int .i64 x, .slice a' n' c'] 25)) := fun W => check_any x a' n' c' W
      have hck : chkE x n' = if mayB x (n - 1) then 0 else 9 := by unfold chkE; rw [hn'.out, HLD.out]
      cases hmay : mayB x (n - 1)
      · have HDD : Hid (decF l = (0, [], 9)) := by
          unfold Hid
          rw [hmay] at hd
          simpa using hd
        rw [hmay] at hck
        simp at hck
        rw [hck] at HCK
        clear hd hck
        go_wp2_with fail
        refine (HCK.out _).mono ?_
        rintro e w1 ⟨rfl, rfl⟩
        have T2 := up_al (up_alloc W5 (.cells #[.int .i64 x, .slice a' n' c'] 25)) (.cells #[.int .i64 x, .slice a' n' c'] 25)
        have T1 := up_alloc W5 (.cells #[.int .i64 x, .slice a' n' c'] 25)
        have D0 := blk_up HT.out.2.1 T1
        have UB : Below w.heap.size w (W5.alloc (.cells #[.int .i64 x, .slice a' n' c'] 25)) := up_trans HT.out.1 T1
        clear T2 q5 q6
        generalize W5.alloc (.cells #[.int .i64 x, .slice a' n' c'] 25) = W6 at *
        have HD0 : Hid (W6.heap[w.heap.size]? = some (.cells #[.int .i64 0, .slice none 0 0] 25) ∧ Below w.heap.size w W6) := ⟨D0, UB⟩
        have q1 := blk_cell D0 0 _ rfl
        have q2 := blk_cell D0 1 _ rfl
        have q3 := blk_frozen D0 0
        have q4 := blk_frozen D0 1
        clear D0 UB T1
        go_wp2
        have g2 := set2_grown W6 w.heap.size (.int .i64 0) (.slice none 0 0)
        refine bodyPost_ret (results_fil rfl (.inr rfl) _ _ rfl (set2_blk HD0.out.1 (.int .i64 0) (.slice none 0 0))) rfl ?_
        rw [HDD.out]
        exact ⟨none, 0, 0, rfl, rfl, OwnB.nil _ _, HD0.out.2.grown g2 HD0.out.2.size (fun j hj => by simp at hj; omega)⟩
      · have HDD : Hid (decF l = (x, r, 0)) := by
          unfold Hid
          rw [hmay] at hd
          simpa using hd
        rw [hmay] at hck
        simp at hck
        rw [hck] at HCK
        clear hd hck
        go_wp2_with fail
        refine (HCK.out _).mono ?_
        rintro e w1 ⟨rfl, rfl⟩
        have T1 := up_alloc W5 (.cells #[.int .i64 x, .slice a' n' c'] 25)
        have D0 := blk_up HT.out.2.1 T1
        have D1 := blk_up HT.out.2.2.1 T1
        have O6 : OwnB (W5.alloc (.cells #[.int .i64 x, .slice a' n' c'] 25)) N (.slice a' n' c') r := own_up HT.out.2.2.2 T1
        have UB : Below w.heap.size w (W5.alloc (.cells #[.int .i64 x, .slice a' n' c'] 25)) := up_trans HT.out.1 T1
        clear q5 q6
        generalize W5.alloc (.cells #[.int .i64 x, .slice a' n' c'] 25) = W6 at *
        have HD0 : Hid (W6.heap[w.heap.size]? = some (.cells #[.int .i64 0, .slice none 0 0] 25) ∧ Below w.heap.size w W6 ∧ OwnB W6 N (.slice a' n' c') r) := ⟨D0, UB, O6⟩
        have q1 := blk_cell D0 0 _ rfl
        have q2 := blk_cell D0 1 _ rfl
        have q3 := blk_frozen D0 0
        have q4 := blk_frozen D0 1
        have q5 := blk_cell D1 0 _ rfl
        have q6 := blk_cell D1 1 _ rfl
        clear D0 UB T1 D1 O6
        go_wp2
        have g2 := set2_grown W6 w.heap.size (.int .i64 x) (.slice a' n' c')
        refine bodyPost_ret (results_fil rfl (.inr rfl) _ _ rfl (set2_blk HD0.out.1 (.int .i64 x) (.slice a' n' c'))) rfl ?_
        rw [HDD.out]
        have o2 := HD0.out.2.2.kept g2 (.inr fun e => by have := (HD0.out.2.2.lt _ e).1; omega)
        exact ⟨a', n', c', rfl, hn'.out, OwnB.mono (base := N) o2 (by omega), HD0.out.2.1.grown g2 HD0.out.2.1.size (fun j hj => by simp at hj; omega)⟩
end Go.Proofs.Ytbhlphhgibikeaa
