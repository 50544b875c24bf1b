/- Texts of layers 1 to 13, in this order. -/
import Derived.Test.YthiegmhplnbdlaaGreatG40

namespace Go.Proofs.YthiegmhplnbdlaaGreat
open Go.RowKit SumPlain
set_option linter.unusedVariables false
set_option maxHeartbeats 1000000 in
theorem number_bad (N : Nat) (l : List Int) (w0 w : World) (h : Rd w0 w N l) (x : Int) (hp : numP 4 l = .error x) :
    Calls Tryz.prog 114 #[.pointer (some ⟨N, 0, none⟩)] w fun e w' => e = panics x ∧ Hid (w.grownBy w' (some N)) := by
  obtain ⟨h1, h2, a, c, h3, h4⟩ := h
  have p0 := blk_cell h3 0 _ rfl
  have HV : Hid (Octs w (.slice a l.length c) l) := h4.up h1
  have HG : Hid (∀ d, w.grownBy (w.drewN d) (some N)) := fun d => grown_up (up_drewN w d) _
  have hx := h4.1
  clear h1 h2 h3 h4
  unfold numP at hp
  rcases get_says l hx with hg | hg | ⟨m, j, hg, n0, n1, j1, jl, ho, j9⟩
  · rw [getRet_inj hg] at hp
    simp at hp
    subst hp
    go_enter Tryz.func114, Tryz.ntmps114
    go_wp2_with fail
    refine (get_any l _ _ HV.out).mono ?_
    rintro e1 w1 ⟨rfl, d, rfl⟩
    rw [hg]
    go_wp2
    exact ⟨rfl, rfl, HG.out d⟩
  · rw [getRet_inj hg] at hp
    simp at hp
    subst hp
    go_enter Tryz.func114, Tryz.ntmps114
    go_wp2_with fail
    refine (get_any l _ _ HV.out).mono ?_
    rintro e1 w1 ⟨rfl, d, rfl⟩
    rw [hg]
    go_wp2
    exact ⟨rfl, rfl, HG.out d⟩
  · rw [getRet_inj hg] at hp
    simp only [if_true] at hp
    by_cases hb : 1099511627776 < m
    · rw [if_pos hb] at hp
      injection hp with hp
      subst hp
      clear ho
      go_enter Tryz.func114, Tryz.ntmps114
      go_wp2_with fail
      refine (get_any l _ _ HV.out).mono ?_
      rintro e1 w1 ⟨rfl, d, rfl⟩
      rw [hg]
      clear hg
      go_wp2
      exact ⟨rfl, rfl, HG.out d⟩
    · rw [if_neg hb] at hp
      cases hp
set_option maxHeartbeats 1000000 in
theorem number_ok (N : Nat) (l : List Int) (w0 w : World) (h : Rd w0 w N l) (n : Int) (r : List Int) (hp : numP 4 l = .ok (n, r)) :
    Calls Tryz.prog 114 #[.pointer (some ⟨N, 0, none⟩)] w fun e w' => e = .returned (.int .i64 n) ∧ Hid (Rd w0 w' N r) ∧ Hid (w.grownBy w' (some N)) := by
  have HR : Hid (Rd w0 w N l) := h
  obtain ⟨h1, h2, a, c, h3, h4⟩ := h
  have HV : Hid (Octs w (.slice a l.length c) l) := h4.up h1
  have HD : Hid (∀ d, (w.drewN d).heap[N]? = some (.cells #[.slice a l.length c] 177)) := fun d => blk_up h3 (up_drewN w d)
  have hx := h4.1
  have p0 := blk_cell h3 0 _ rfl
  clear h1 h2 h3
  unfold numP at hp
  rcases get_says l hx with hg | hg | ⟨m, j, hg, n0, n1, j1, jl, ho, j9⟩
  · rw [getRet_inj hg] at hp
    simp at hp
  · rw [getRet_inj hg] at hp
    simp at hp
  · rw [getRet_inj hg] at hp
    simp only [if_true] at hp
    by_cases hb : 1099511627776 < m
    · rw [if_pos hb] at hp
      cases hp
    · rw [if_neg hb] at hp
      simp only [Int.toNat_natCast, Except.ok.injEq, Prod.mk.injEq] at hp
      obtain ⟨rfl, rfl⟩ := hp
      clear ho
      have gw : IntKind.i64.wrap m = m := by simp [IntKind.wrap, IntKind.bits, IntKind.signed]; omega
      have HG : Hid (∀ d v, w.grownBy ((w.drewN d).setCell ⟨N, 0, none⟩ v) (some N)) := fun d v => grown_trans (grown_up (up_drewN w d) _) (grown_set _ _ _)
      have HS : Hid (∀ d a' c', Octs w0 (.slice a' (l.length - j) c') (l.drop j) → Rd w0 ((w.drewN d).setCell ⟨N, 0, none⟩ (.slice a' (l.length - j) c')) N (l.drop j)) := by
        intro d a' c' ho
        have e : (l.drop j).length = l.length - j := List.length_drop
        rw [← e] at ho ⊢
        exact (HR.out.up (up_drewN w d)).set ho
      rcases h4.form with ⟨rfl, rfl, rfl⟩ | ⟨x, rfl, rfl⟩ | ⟨b, off, rfl, hne, hc, hm⟩
      · simp at jl; omega
      · simp at jl; omega
      · unfold maxLen at hm
        by_cases hcn : c = j
        · obtain rfl : j = l.length := by omega
          obtain rfl : c = l.length := hcn
          simp only [List.drop_length, Nat.sub_self] at HS ⊢
          have HS2 : Hid (∀ d x c, Rd w0 ((w.drewN d).setCell ⟨N, 0, none⟩ (.slice (some x) 0 c)) N []) := fun d x c => HS.out _ _ _ ⟨by simp, .inl ⟨rfl, _, _, rfl, fun e => by cases e⟩⟩
          clear HS h4
          go_enter Tryz.func114, Tryz.ntmps114
          go_wp2_with fail
          refine (get_any l _ _ HV.out).mono ?_
          rintro e1 w1 ⟨rfl, d, rfl⟩
          rw [hg]
          have q0 := blk_cell (HD.out d) 0 _ rfl
          have z0 := blk_frozen (HD.out d) 0
          clear hg p0
          go_wp2
          go_ret
          exact ⟨rfl, HS2.out _ _ _, HG.out _ _⟩
        · have HS2 : Hid (∀ d, Rd w0 ((w.drewN d).setCell ⟨N, 0, none⟩ (.slice (some ⟨b, off + j, none⟩) (l.length - j) (c - j))) N (l.drop j)) := fun d => HS.out _ _ _ (octs_rest h4 jl hc)
          clear HS h4
          go_enter Tryz.func114, Tryz.ntmps114
          go_wp2_with fail
          refine (get_any l _ _ HV.out).mono ?_
          rintro e1 w1 ⟨rfl, d, rfl⟩
          rw [hg]
          have q0 := blk_cell (HD.out d) 0 _ rfl
          have z0 := blk_frozen (HD.out d) 0
          clear hg p0
          go_wp2
          go_ret
          exact ⟨rfl, HS2.out _, HG.out _ _⟩
theorem numP_bounds {x : Int} {l : List Int} (hx : ∀ y ∈ l, 0 ≤ y ∧ y ≤ 255) {n : Int} {r : List Int} (h : numP x l = .ok (n, r)) : 0 ≤ n ∧ n ≤ 1099511627776 ∧ ∀ y ∈ r, 0 ≤ y ∧ y ≤ 255 := by
  obtain ⟨h1, h2, h3, _⟩ := numP_again hx h
  exact ⟨h1, h2, all_tail hx h3⟩
set_option maxHeartbeats 1000000 in
theorem text_bad (N : Nat) (l : List Int) (w0 w : World) (h : Rd w0 w N l) (x : Int) (hp : textP 4 l = .error x) :
    Calls Tryz.prog 124 #[.pointer (some ⟨N, 0, none⟩)] w fun e w' => e = panics x ∧ Hid (w.grownBy w' (some N)) := by
  have HR : Hid (Rd w0 w N l) := h
  have hx : ∀ y ∈ l, 0 ≤ y ∧ y ≤ 255 := by obtain ⟨_, _, _, _, _, h4⟩ := h; exact h4.1
  clear h
  unfold textP at hp
  cases hq : numP 4 l with
  | error y =>
    rw [hq] at hp
    injection hp with hp
    subst hp
    go_enter Tryz.func124, Tryz.ntmps124
    go_wp2_with fail
    refine (number_bad N l w0 w HR.out _ hq).mono ?_
    rintro e w1 ⟨rfl, g1⟩
    unfold panics
    go_wp2
    exact ⟨rfl, rfl, g1⟩
  | ok v =>
    rw [hq] at hp
    obtain ⟨n, r⟩ := v
    obtain ⟨n0, n1, hr⟩ := numP_bounds hx hq
    simp only at hp
    by_cases h5 : 65536 < n
    · rw [if_pos h5] at hp
      injection hp with hp
      subst hp
      clear hx hr
      have HC : Hid (Calls Tryz.prog 114 #[.pointer (some ⟨N, 0, none⟩)] w fun e w' => e = .returned (.int .i64 n) ∧ Hid (Rd w0 w' N r) ∧ Hid (w.grownBy w' (some N))) := number_ok N l w0 w HR.out n r hq
      clear hq
      go_enter Tryz.func124, Tryz.ntmps124
      go_wp2_with fail
      refine HC.out.mono ?_
      rintro e w1 ⟨rfl, R1, g1⟩
      go_wp2
      exact ⟨rfl, rfl, g1⟩
    · rw [if_neg h5] at hp
      by_cases h6 : (r.length : Int) < n
      · rw [if_pos h6] at hp
        injection hp with hp
        subst hp
        obtain ⟨m, rfl⟩ : ∃ m : Nat, n = (m : Int) := ⟨n.toNat, by omega⟩
        clear hx hr
        have HC : Hid (Calls Tryz.prog 114 #[.pointer (some ⟨N, 0, none⟩)] w fun e w' => e = .returned (.int .i64 (m : Int)) ∧ Hid (Rd w0 w' N r) ∧ Hid (w.grownBy w' (some N))) := number_ok N l w0 w HR.out m r hq
        clear hq
        go_enter Tryz.func124, Tryz.ntmps124
        go_wp2_with fail
        refine HC.out.mono ?_
        rintro e w1 ⟨rfl, R1, g1⟩
        go_wp2_with fail
        refine (take_bad N m r w0 w1 R1.out (by omega) (by omega)).mono ?_
        rintro e w2 ⟨rfl, rfl⟩
        unfold panics
        go_wp2
        exact ⟨rfl, rfl, g1⟩
      · rw [if_neg h6] at hp
        cases hp
set_option maxHeartbeats 1000000 in
theorem text_ok (N : Nat) (l : List Int) (w0 w : World) (h : Rd w0 w N l) (s : ByteArray) (q : List Int) (hp : textP 4 l = .ok (s, q)) :
    Calls Tryz.prog 124 #[.pointer (some ⟨N, 0, none⟩)] w fun e w' => e = .returned (.string s) ∧ Hid (Rd w0 w' N q) ∧ Hid (w.grownBy w' (some N)) := by
  have HR : Hid (Rd w0 w N l) := h
  have hx : ∀ y ∈ l, 0 ≤ y ∧ y ≤ 255 := by obtain ⟨_, _, _, _, _, h4⟩ := h; exact h4.1
  clear h
  unfold textP at hp
  cases hq : numP 4 l with
  | error y =>
    rw [hq] at hp
    cases hp
  | ok v =>
    rw [hq] at hp
    obtain ⟨n, r⟩ := v
    obtain ⟨n0, n1, hr⟩ := numP_bounds hx hq
    simp only at hp
    by_cases h5 : 65536 < n
    · rw [if_pos h5] at hp
      cases hp
    · rw [if_neg h5] at hp
      by_cases h6 : (r.length : Int) < n
      · rw [if_pos h6] at hp
        cases hp
      · rw [if_neg h6] at hp
        simp only [Except.ok.injEq, Prod.mk.injEq] at hp
        obtain ⟨m, rfl⟩ : ∃ m : Nat, n = (m : Int) := ⟨n.toNat, by omega⟩
        rw [Int.toNat_natCast] at hp
        obtain ⟨rfl, rfl⟩ := hp
        clear hx hr
        have HC : Hid (Calls Tryz.prog 114 #[.pointer (some ⟨N, 0, none⟩)] w fun e w' => e = .returned (.int .i64 (m : Int)) ∧ Hid (Rd w0 w' N r) ∧ Hid (w.grownBy w' (some N))) := number_ok N l w0 w HR.out m r hq
        clear hq
        go_enter Tryz.func124, Tryz.ntmps124
        go_wp2_with fail
        refine HC.out.mono ?_
        rintro e w1 ⟨rfl, R1, g1⟩
        go_wp2_with fail
        refine (take_ok N m r w0 w1 R1.out (by omega) (by omega)).mono ?_
        rintro e w2 ⟨a2, c2, rfl, O2, R2, g2⟩
        have hk := run_convert_octs _ _ _ (O2.out.up R2.out.1)
        go_wp2
        go_ret
        exact ⟨rfl, R2, grown_trans g1.out g2.out⟩
end Go.Proofs.YthiegmhplnbdlaaGreat

namespace Go.Proofs.YthiegmhplnbdlaaGreat
open Go.RowKit SumPlain
set_option linter.unusedVariables false
theorem grown_newW {a b c : World} {r : Option Nat} {M : Nat} (h : a.grownBy b r) (k : b.grownBy c (some M)) (hM : a.heap.size ≤ M) : a.grownBy c r :=
  ⟨k.os.trans h.os, k.tape.trans h.tape, k.output.trans h.output, Nat.le_trans h.size k.size, fun i hi hne => (k.block i (Nat.lt_of_lt_of_le hi h.size) (fun e => by injection e with e; omega)).trans (h.block i hi hne)⟩
def set3 (w : World) (N : Nat) (a b c : Value) : World := ((w.setCell ⟨N, 0, none⟩ a).setCell ⟨N, 1, none⟩ b).setCell ⟨N, 2, none⟩ c
theorem set3_blkW {w : World} {N : Nat} {t : TypeId} {x0 x1 x2 : Value} (h : w.heap[N]? = some (.cells #[x0, x1, x2] t)) (a b c : Value) : (set3 w N a b c).heap[N]? = some (.cells #[a, b, c] t) :=
  blk_set (blk_set (blk_set h 0 a) 1 b) 2 c
theorem set3_grownW (w : World) (N : Nat) (a b c : Value) : w.grownBy (set3 w N a b c) (some N) :=
  grown_trans (grown_trans (grown_set w ⟨N, 0, none⟩ a) (grown_set _ ⟨N, 1, none⟩ b)) (grown_set _ ⟨N, 2, none⟩ c)
theorem results_chg {fn : Func} (h : fn.results = #[.cell 2 75]) (tmps : Array Value) (w : World) {N : Nat} {a b c : Value} (ht : tmps.getD 2 undef = .pointer (some ⟨N, 0, none⟩))
    (hc : w.heap[N]? = some (.cells #[a, b, c] 75)) : (results fn tmps).run Tryz.prog w = .ok (.agg #[a, b, c]) w := by
  have c0 := blk_cell hc 0 a rfl
  have c1 := blk_cell hc 1 b rfl
  have c2 := blk_cell hc 2 c rfl
  have ht' : tmps[2]?.getD undef = .pointer (some ⟨N, 0, none⟩) := by simpa using ht
  simp only [results, h]
  simp [ht', go_sem, c0, c1, c2]
theorem octs_one {w : World} {a : Option Addr} {c : Nat} {k : Int} (h : Octs w (.slice a 1 c) [k]) : ∃ b off, a = some ⟨b, off, none⟩ ∧ 1 ≤ c ∧ c ≤ maxLen ∧ w.cell? ⟨b, off, none⟩ = some (.int .u8 k) := by
  obtain ⟨_, hv⟩ := h
  rcases hv with ⟨h0, _⟩ | ⟨_, b, off, cap, e, h1, h2, h3⟩
  · cases h0
  · simp at e
    obtain ⟨rfl, rfl⟩ := e
    exact ⟨b, off, rfl, h1, h2, h3 0 k rfl⟩
theorem change_short (N : Nat) (w0 w : World) (h : Rd w0 w N []) :
    Calls Tryz.prog 115 #[.pointer (some ⟨N, 0, none⟩)] w fun e w' => e = panics 8 ∧ Hid (w.grownBy w' (some N)) := by
  have HR : Hid (∀ o, Rd w0 (w.alloc o) N []) := fun o => h.up (up_alloc w o)
  have HG : Hid (∀ o, w.grownBy (w.alloc o) (some N)) := fun o => grown_up (up_alloc w o) _
  clear h
  go_enter Tryz.func115, Tryz.ntmps115
  go_wp2_with fail
  refine (take_bad N 1 [] w0 _ (HR.out _) (by decide) (by decide)).mono ?_
  rintro e w1 ⟨rfl, rfl⟩
  unfold panics
  go_wp2
  exact ⟨rfl, rfl, HG.out _⟩
structure Kinded (w0 w w2 : World) (N : Nat) (k : Int) (r : List Int) : Prop where
  rd : Rd w0 w2 N r
  grown : w.grownBy w2 (some N)
  box : w2.heap[w.heap.size]? = some (.cells #[.string ⟨#[]⟩, .bool false, .string ⟨#[]⟩] 75)
theorem Kinded.lt {w0 w w2 : World} {N : Nat} {k : Int} {r : List Int} (h : Kinded w0 w w2 N k r) : w.heap.size < w2.heap.size := blk_lt h.box
theorem kind_take (N : Nat) (k : Int) (r : List Int) (w0 w : World) (h : Rd w0 w N (k :: r)) :
    Calls Tryz.prog 123 #[.pointer (some ⟨N, 0, none⟩), .int .i64 1] (w.alloc (.cells #[.string ⟨#[]⟩, .bool false, .string ⟨#[]⟩] 75)) fun e w2 => ∃ b off c, e = .returned (.slice (some ⟨b, off, none⟩) 1 c) ∧ 1 ≤ c ∧ c ≤ 9223372036854775807 ∧ w2.cell? ⟨b, off, none⟩ = some (.int .u8 k) ∧ Hid (Kinded w0 w w2 N k r) := by
  have hN : N < w.heap.size := by obtain ⟨_, _, a, c, h3, _⟩ := h; exact blk_lt h3
  refine (take_ok N 1 (k :: r) w0 _ (h.up (up_alloc w _)) (by simp) (by decide)).mono ?_
  rintro e w2 ⟨a, c, rfl, O2, R2, G2⟩
  obtain ⟨b, off, rfl, h1, h2, hc⟩ := octs_one O2.out
  refine ⟨b, off, c, rfl, h1, h2, (R2.out.1.cell (World.block_lt_of_cell? w0 _ hc)).trans hc, R2.out, grown_trans (grown_up (up_alloc w _) _) G2.out, blk_grown (blk_new w _) G2.out (by simp; omega)⟩
set_option maxHeartbeats 1000000 in
theorem change_kind (N : Nat) (k : Int) (r : List Int) (w0 w : World) (h : Rd w0 w N (k :: r)) (h1 : ¬ k = 1) (h2 : ¬ k = 2) :
    Calls Tryz.prog 115 #[.pointer (some ⟨N, 0, none⟩)] w fun e w' => e = panics 22 ∧ Hid (w.grownBy w' (some N)) := by
  have HH : Hid (Rd w0 w N (k :: r)) := h
  have b1 : (k == 1) = false := by simp [h1]
  have b2 : (k == 2) = false := by simp [h2]
  have b3 : (k != 1) = true := by simp [h1]
  have b4 : (k != 2) = true := by simp [h2]
  clear h
  go_enter Tryz.func115, Tryz.ntmps115
  go_wp2_with fail
  refine (kind_take N _ r w0 w HH.out).mono ?_
  rintro e w2 ⟨b, off, c, rfl, c1, c2, hc, K2⟩
  go_wp2
  exact ⟨rfl, rfl, K2.out.grown⟩
set_option maxHeartbeats 1000000 in
theorem change_key (N : Nat) (k : Int) (r : List Int) (w0 w : World) (h : Rd w0 w N (k :: r)) (hk : k = 1 ∨ k = 2) (x : Int) (hp : textP 4 r = .error x) :
    Calls Tryz.prog 115 #[.pointer (some ⟨N, 0, none⟩)] w fun e w' => e = panics x ∧ Hid (w.grownBy w' (some N)) := by
  have HH : Hid (Rd w0 w N (k :: r)) := h
  clear h
  rcases hk with rfl | rfl
  · go_enter Tryz.func115, Tryz.ntmps115
    go_wp2_with fail
    refine (kind_take N _ r w0 w HH.out).mono ?_
    rintro e w2 ⟨b, off, c, rfl, c1, c2, hc, K2⟩
    go_wp2_with fail
    refine (text_bad N r w0 w2 K2.out.rd x hp).mono ?_
    rintro e w3 ⟨rfl, g3⟩
    unfold panics
    go_wp2
    exact ⟨rfl, rfl, grown_trans K2.out.grown g3.out⟩
  · go_enter Tryz.func115, Tryz.ntmps115
    go_wp2_with fail
    refine (kind_take N _ r w0 w HH.out).mono ?_
    rintro e w2 ⟨b, off, c, rfl, c1, c2, hc, K2⟩
    go_wp2_with fail
    refine (text_bad N r w0 w2 K2.out.rd x hp).mono ?_
    rintro e w3 ⟨rfl, g3⟩
    unfold panics
    go_wp2
    exact ⟨rfl, rfl, grown_trans K2.out.grown g3.out⟩
set_option maxHeartbeats 1000000 in
theorem change_gone (N : Nat) (r : List Int) (w0 w : World) (h : Rd w0 w N (2 :: r)) (s : ByteArray) (r1 : List Int) (hp : textP 4 r = .ok (s, r1)) :
    Calls Tryz.prog 115 #[.pointer (some ⟨N, 0, none⟩)] w fun e w' => e = .returned (.agg #[.string s, .bool true, .string ⟨#[]⟩]) ∧ Hid (Rd w0 w' N r1) ∧ Hid (w.grownBy w' (some N)) := by
  have HH : Hid (Rd w0 w N (2 :: r)) := h
  have HN : Hid (N < w.heap.size ∧ w0.heap.size ≤ w.heap.size) := by obtain ⟨hb, _, a, c, h3, _⟩ := h; exact ⟨blk_lt h3, hb.size⟩
  have HT : Hid (∀ w2, Rd w0 w2 N r → Calls Tryz.prog 124 #[.pointer (some ⟨N, 0, none⟩)] w2 fun e w' => e = .returned (.string s) ∧ Hid (Rd w0 w' N r1) ∧ Hid (w2.grownBy w' (some N))) := fun w2 h2 => text_ok N r w0 w2 h2 s r1 hp
  clear h hp
  go_enter Tryz.func115, Tryz.ntmps115
  go_wp2_with fail
  refine (kind_take N _ r w0 w HH.out).mono ?_
  rintro e w2 ⟨b, off, c, rfl, c1, c2, hc, K2⟩
  go_wp2_with fail
  refine (HT.out w2 K2.out.rd).mono ?_
  rintro e w3 ⟨rfl, R3, g3⟩
  have B3 : Hid (w3.heap[w.heap.size]? = some (.cells #[.string ⟨#[]⟩, .bool false, .string ⟨#[]⟩] 75)) := blk_grown K2.out.box g3.out (by have := HN.out; simp; omega)
  have G3 : Hid (w.grownBy w3 (some N)) := grown_trans K2.out.grown g3.out
  clear hc K2 g3
  have D4 : Hid ((w3.alloc (.cells #[.string s, .bool true, .string ⟨#[]⟩] 75)).heap[w.heap.size]? = some (.cells #[.string ⟨#[]⟩, .bool false, .string ⟨#[]⟩] 75)) := blk_up B3.out (up_alloc _ _)
  have E4 : Hid ((w3.alloc (.cells #[.string s, .bool true, .string ⟨#[]⟩] 75)).heap[w3.heap.size]? = some (.cells #[.string s, .bool true, .string ⟨#[]⟩] 75)) := blk_new _ _
  have G4 : Hid (w.grownBy (w3.alloc (.cells #[.string s, .bool true, .string ⟨#[]⟩] 75)) (some N)) := grown_trans G3.out (grown_up (up_alloc _ _) _)
  have R4 : Hid (Rd w0 (w3.alloc (.cells #[.string s, .bool true, .string ⟨#[]⟩] 75)) N r1) := R3.out.up (up_alloc _ _)
  have q0 : ∀ o, (w3.alloc o).cell? ⟨w.heap.size, 0, none⟩ = some (.string ⟨#[]⟩) := fun o => blk_cell (blk_up B3.out (up_alloc _ _)) 0 _ rfl
  have q1 : ∀ o, (w3.alloc o).cell? ⟨w.heap.size, 1, none⟩ = some (.bool false) := fun o => blk_cell (blk_up B3.out (up_alloc _ _)) 1 _ rfl
  have q2 : ∀ o, (w3.alloc o).cell? ⟨w.heap.size, 2, none⟩ = some (.string ⟨#[]⟩) := fun o => blk_cell (blk_up B3.out (up_alloc _ _)) 2 _ rfl
  have z0 : ∀ o, (w3.alloc o).frozen? ⟨w.heap.size, 0, none⟩ = false := fun o => blk_frozen (blk_up B3.out (up_alloc _ _)) 0
  have z1 : ∀ o, (w3.alloc o).frozen? ⟨w.heap.size, 1, none⟩ = false := fun o => blk_frozen (blk_up B3.out (up_alloc _ _)) 1
  have z2 : ∀ o, (w3.alloc o).frozen? ⟨w.heap.size, 2, none⟩ = false := fun o => blk_frozen (blk_up B3.out (up_alloc _ _)) 2
  go_wp2
  refine bodyPost_ret (results_chg rfl _ _ rfl (set3_blkW D4.out _ _ _)) rfl ?_
  refine ⟨rfl, R4.out.grown (set3_grownW _ _ _ _ _) (fun g hg => by have := HN.out; simp at hg; omega), grown_newW G4.out (set3_grownW _ _ _ _ _) (Nat.le_refl _)⟩
set_option maxHeartbeats 1000000 in
theorem change_val (N : Nat) (r : List Int) (w0 w : World) (h : Rd w0 w N (1 :: r)) (s : ByteArray) (r1 : List Int) (hp : textP 4 r = .ok (s, r1)) (x : Int) (hq : textP 4 r1 = .error x) :
    Calls Tryz.prog 115 #[.pointer (some ⟨N, 0, none⟩)] w fun e w' => e = panics x ∧ Hid (w.grownBy w' (some N)) := by
  have HH : Hid (Rd w0 w N (1 :: r)) := h
  have HT : Hid (∀ w2, Rd w0 w2 N r → Calls Tryz.prog 124 #[.pointer (some ⟨N, 0, none⟩)] w2 fun e w' => e = .returned (.string s) ∧ Hid (Rd w0 w' N r1) ∧ Hid (w2.grownBy w' (some N))) := fun w2 h2 => text_ok N r w0 w2 h2 s r1 hp
  clear h hp
  go_enter Tryz.func115, Tryz.ntmps115
  go_wp2_with fail
  refine (kind_take N _ r w0 w HH.out).mono ?_
  rintro e w2 ⟨b, off, c, rfl, c1, c2, hc, K2⟩
  go_wp2_with fail
  refine (HT.out w2 K2.out.rd).mono ?_
  rintro e w3 ⟨rfl, R3, g3⟩
  have G3 : Hid (w.grownBy w3 (some N)) := grown_trans K2.out.grown g3.out
  clear hc K2 g3
  go_wp2_with fail
  have G4 : Hid (w.grownBy (w3.alloc (.cells #[.string s, .bool false, .string ⟨#[]⟩] 75)) (some N)) := grown_trans G3.out (grown_up (up_alloc _ _) _)
  refine (text_bad N r1 w0 _ (R3.out.up (up_alloc _ _)) x hq).mono ?_
  rintro e w5 ⟨rfl, g5⟩
  unfold panics
  go_wp2
  exact ⟨rfl, rfl, grown_trans G4.out g5.out⟩
set_option maxHeartbeats 1000000 in
theorem change_full (N : Nat) (r : List Int) (w0 w : World) (h : Rd w0 w N (1 :: r)) (s : ByteArray) (r1 : List Int) (hp : textP 4 r = .ok (s, r1)) (t : ByteArray) (r2 : List Int) (hq : textP 4 r1 = .ok (t, r2)) :
    Calls Tryz.prog 115 #[.pointer (some ⟨N, 0, none⟩)] w fun e w' => e = .returned (.agg #[.string s, .bool false, .string t]) ∧ Hid (Rd w0 w' N r2) ∧ Hid (w.grownBy w' (some N)) := by
  have HH : Hid (Rd w0 w N (1 :: r)) := h
  have HN : Hid (N < w.heap.size ∧ w0.heap.size ≤ w.heap.size) := by obtain ⟨hb, _, a, c, h3, _⟩ := h; exact ⟨blk_lt h3, hb.size⟩
  have HT : Hid (∀ w2, Rd w0 w2 N r → Calls Tryz.prog 124 #[.pointer (some ⟨N, 0, none⟩)] w2 fun e w' => e = .returned (.string s) ∧ Hid (Rd w0 w' N r1) ∧ Hid (w2.grownBy w' (some N))) := fun w2 h2 => text_ok N r w0 w2 h2 s r1 hp
  have HU : Hid (∀ w2, Rd w0 w2 N r1 → Calls Tryz.prog 124 #[.pointer (some ⟨N, 0, none⟩)] w2 fun e w' => e = .returned (.string t) ∧ Hid (Rd w0 w' N r2) ∧ Hid (w2.grownBy w' (some N))) := fun w2 h2 => text_ok N r1 w0 w2 h2 t r2 hq
  clear h hp hq
  go_enter Tryz.func115, Tryz.ntmps115
  go_wp2_with fail
  refine (kind_take N _ r w0 w HH.out).mono ?_
  rintro e w2 ⟨b, off, c, rfl, c1, c2, hc, K2⟩
  go_wp2_with fail
  refine (HT.out w2 K2.out.rd).mono ?_
  rintro e w3 ⟨rfl, R3, g3⟩
  have B3 : Hid (w3.heap[w.heap.size]? = some (.cells #[.string ⟨#[]⟩, .bool false, .string ⟨#[]⟩] 75)) := blk_grown K2.out.box g3.out (by have := HN.out; simp; omega)
  have G3 : Hid (w.grownBy w3 (some N)) := grown_trans K2.out.grown g3.out
  have S3 : Hid (w.heap.size < w3.heap.size) := blk_lt B3.out
  clear hc K2 g3
  have D4 : Hid ((w3.alloc (.cells #[.string s, .bool false, .string ⟨#[]⟩] 75)).heap[w.heap.size]? = some (.cells #[.string ⟨#[]⟩, .bool false, .string ⟨#[]⟩] 75)) := blk_up B3.out (up_alloc _ _)
  have E4 : Hid ((w3.alloc (.cells #[.string s, .bool false, .string ⟨#[]⟩] 75)).heap[w3.heap.size]? = some (.cells #[.string s, .bool false, .string ⟨#[]⟩] 75)) := blk_new _ _
  have G4 : Hid (w.grownBy (w3.alloc (.cells #[.string s, .bool false, .string ⟨#[]⟩] 75)) (some N)) := grown_trans G3.out (grown_up (up_alloc _ _) _)
  have R4 : Hid (Rd w0 (w3.alloc (.cells #[.string s, .bool false, .string ⟨#[]⟩] 75)) N r1) := R3.out.up (up_alloc _ _)
  go_wp2_with fail
  generalize w3.alloc (.cells #[.string s, .bool false, .string ⟨#[]⟩] 75) = w4 at *
  refine (HU.out w4 R4.out).mono ?_
  rintro e w5 ⟨rfl, R5, g5⟩
  have D5 : Hid (w5.heap[w.heap.size]? = some (.cells #[.string ⟨#[]⟩, .bool false, .string ⟨#[]⟩] 75)) := blk_grown D4.out g5.out (by have := HN.out; simp; omega)
  have E5 : Hid (w5.heap[w3.heap.size]? = some (.cells #[.string s, .bool false, .string ⟨#[]⟩] 75)) := blk_grown E4.out g5.out (by have := HN.out; have := S3.out; simp; omega)
  have G5 : Hid (w.grownBy w5 (some N)) := grown_trans G4.out g5.out
  have hne : w.heap.size ≠ w3.heap.size := by have := S3.out; omega
  have D6 : Hid ((w5.setCell ⟨w3.heap.size, 2, none⟩ (.string t)).heap[w.heap.size]? = some (.cells #[.string ⟨#[]⟩, .bool false, .string ⟨#[]⟩] 75)) := blk_grown D5.out (grown_set _ _ _) (by simp; exact hne)
  have E6 : Hid ((w5.setCell ⟨w3.heap.size, 2, none⟩ (.string t)).heap[w3.heap.size]? = some (.cells #[.string s, .bool false, .string t] 75)) := blk_set E5.out 2 _
  have R6 : Hid (Rd w0 (w5.setCell ⟨w3.heap.size, 2, none⟩ (.string t)) N r2) := R5.out.grown (grown_set _ _ _) (fun g hg => by have := HN.out; have := S3.out; simp at hg; omega)
  have G6 : Hid (w.grownBy (w5.setCell ⟨w3.heap.size, 2, none⟩ (.string t)) (some N)) := grown_newW G5.out (grown_set _ _ _) (by have := S3.out; simp; omega)
  have x0 : w5.cell? ⟨w3.heap.size, 0, none⟩ = some (.string s) := blk_cell E5.out 0 _ rfl
  have x1 : w5.cell? ⟨w3.heap.size, 1, none⟩ = some (.bool false) := blk_cell E5.out 1 _ rfl
  have x2 : w5.cell? ⟨w3.heap.size, 2, none⟩ = some (.string ⟨#[]⟩) := blk_cell E5.out 2 _ rfl
  have xz := blk_frozen E5.out 2
  have q0 : w5.cell? ⟨w.heap.size, 0, none⟩ = some (.string ⟨#[]⟩) := blk_cell D5.out 0 _ rfl
  have q1 : w5.cell? ⟨w.heap.size, 1, none⟩ = some (.bool false) := blk_cell D5.out 1 _ rfl
  have q2 : w5.cell? ⟨w.heap.size, 2, none⟩ = some (.string ⟨#[]⟩) := blk_cell D5.out 2 _ rfl
  have z0 := blk_frozen D5.out 0
  have z1 := blk_frozen D5.out 1
  have z2 := blk_frozen D5.out 2
  clear D4 E4 G4 R4 g5
  go_wp2
  refine bodyPost_ret (results_chg rfl _ _ rfl (set3_blkW D6.out _ _ _)) rfl ?_
  refine ⟨rfl, R6.out.grown (set3_grownW _ _ _ _ _) (fun g hg => by have := HN.out; simp at hg; omega), grown_newW G6.out (set3_grownW _ _ _ _ _) (Nat.le_refl _)⟩
theorem change_ok (N : Nat) (l : List Int) (w0 w : World) (h : Rd w0 w N l) (c : Chg) (r : List Int) (hp : chgP 4 l = .ok (c, r)) :
    Calls Tryz.prog 115 #[.pointer (some ⟨N, 0, none⟩)] w fun e w' => e = .returned (.agg #[.string c.key, .bool c.del, .string c.val]) ∧ Hid (Rd w0 w' N r) ∧ Hid (w.grownBy w' (some N)) := by
  cases l with
  | nil => cases hp
  | cons k q =>
    simp only [chgP] at hp
    split at hp
    · rename_i hk
      cases e : textP 4 q with
      | error y => rw [e] at hp; cases hp
      | ok v =>
        rw [e] at hp
        obtain ⟨s, r1⟩ := v
        simp only at hp
        by_cases h2 : k = 2
        · subst h2
          simp only [if_true, Except.ok.injEq, Prod.mk.injEq] at hp
          obtain ⟨rfl, rfl⟩ := hp
          exact change_gone N q w0 w h s _ e
        · rw [if_neg h2] at hp
          obtain rfl : k = 1 := by omega
          cases e2 : textP 4 r1 with
          | error y => rw [e2] at hp; cases hp
          | ok v2 =>
            rw [e2] at hp
            obtain ⟨t, r2⟩ := v2
            simp only [Except.ok.injEq, Prod.mk.injEq] at hp
            obtain ⟨rfl, rfl⟩ := hp
            exact change_full N q w0 w h s r1 e t _ e2
    · cases hp
theorem change_bad (N : Nat) (l : List Int) (w0 w : World) (h : Rd w0 w N l) (x : Int) (hp : chgP 4 l = .error x) :
    Calls Tryz.prog 115 #[.pointer (some ⟨N, 0, none⟩)] w fun e w' => e = panics x ∧ Hid (w.grownBy w' (some N)) := by
  cases l with
  | nil =>
    injection hp with hp
    subst hp
    exact change_short N w0 w h
  | cons k q =>
    simp only [chgP] at hp
    by_cases hk : k = 1 ∨ k = 2
    · rw [if_pos hk] at hp
      cases e : textP 4 q with
      | error y =>
        rw [e] at hp
        injection hp with hp
        subst hp
        exact change_key N k q w0 w h hk _ e
      | ok v =>
        rw [e] at hp
        obtain ⟨s, r1⟩ := v
        simp only at hp
        by_cases h2 : k = 2
        · rw [if_pos h2] at hp; cases hp
        · rw [if_neg h2] at hp
          obtain rfl : k = 1 := by omega
          cases e2 : textP 4 r1 with
          | error y =>
            rw [e2] at hp
            injection hp with hp
            subst hp
            exact change_val N q w0 w h s r1 e _ e2
          | ok v2 =>
            rw [e2] at hp
            cases hp
    · rw [if_neg hk] at hp
      injection hp with hp
      subst hp
      exact change_kind N k q w0 w h (by omega) (by omega)
end Go.Proofs.YthiegmhplnbdlaaGreat
