/- Texts of layers 1 to 13, in this order. -/
import Derived.Test.YthiegmhplnbdlaaGreatG42

namespace Go.Proofs.YthiegmhplnbdlaaGreat
open Go.RowKit SumPlain
set_option linter.unusedVariables false
theorem numP_err {x : Int} (hx0 : x ≠ 0) {l : List Int} {y : Int} (h : numP x l = .error y) : y ≠ 0 := by
  unfold numP at h
  split at h
  · split at h
    · injection h with h; subst h; exact hx0
    · cases h
  · rename_i h0
    injection h with h
    subst h
    exact h0
theorem textP_err {x : Int} (hx0 : x ≠ 0) {l : List Int} {y : Int} (h : textP x l = .error y) : y ≠ 0 := by
  unfold textP at h
  cases e : numP x l with
  | error c => rw [e] at h; injection h with h; subst h; exact numP_err hx0 e
  | ok v =>
    rw [e] at h
    obtain ⟨n, r⟩ := v
    simp only at h
    split at h
    · injection h with h; subst h; decide
    · split at h
      · injection h with h; subst h; decide
      · cases h
theorem chgP_err {x : Int} (hx0 : x ≠ 0) {l : List Int} {y : Int} (h : chgP x l = .error y) : y ≠ 0 := by
  cases l with
  | nil => injection h with h; subst h; decide
  | cons k q =>
    simp only [chgP] at h
    split at h
    · cases e : textP x q with
      | error c => rw [e] at h; injection h with h; subst h; exact textP_err hx0 e
      | ok v =>
        rw [e] at h
        obtain ⟨s, r1⟩ := v
        simp only at h
        split at h
        · cases h
        · cases e2 : textP x r1 with
          | error c => rw [e2] at h; injection h with h; subst h; exact textP_err hx0 e2
          | ok v => rw [e2] at h; cases h
    · injection h with h; subst h; decide
theorem chgsP_err {x : Int} (hx0 : x ≠ 0) : ∀ {n : Nat} {l : List Int} {y : Int}, chgsP x n l = .error y → y ≠ 0
  | 0, l, y, h => by cases h
  | n + 1, l, y, h => by
    simp only [chgsP] at h
    cases e : chgP x l with
    | error c => rw [e] at h; injection h with h; subst h; exact chgP_err hx0 e
    | ok v =>
      rw [e] at h
      obtain ⟨c, q⟩ := v
      simp only at h
      cases e2 : chgsP x n q with
      | error c => rw [e2] at h; injection h with h; subst h; exact chgsP_err hx0 e2
      | ok v => rw [e2] at h; cases h
theorem batchP_err {x : Int} (hx0 : x ≠ 0) {l : List Int} {y : Int} (h : batchP x l = .error y) : y ≠ 0 := by
  unfold batchP at h
  cases e : numP 4 l with
  | error c => rw [e] at h; injection h with h; subst h; exact numP_err (by decide) e
  | ok v =>
    rw [e] at h
    obtain ⟨s, q⟩ := v
    simp only at h
    cases e1 : numP 4 q with
    | error c => rw [e1] at h; injection h with h; subst h; exact numP_err (by decide) e1
    | ok v =>
      rw [e1] at h
      obtain ⟨n, q1⟩ := v
      simp only at h
      split at h
      · injection h with h; subst h; decide
      · cases e2 : chgsP x n.toNat q1 with
        | error c => rw [e2] at h; injection h with h; subst h; exact chgsP_err hx0 e2
        | ok v => rw [e2] at h; cases h
theorem readP_err {x : Int} (hx0 : x ≠ 0) {l : List Int} {y : Int} (h : readPW x l = .error y) : y ≠ 0 := by
  unfold readPW at h
  cases e : batchP x l with
  | error c => rw [e] at h; injection h with h; subst h; exact batchP_err hx0 e
  | ok v =>
    rw [e] at h
    obtain ⟨s, cs, t⟩ := v
    simp only at h
    split at h
    · cases h
    · injection h with h; subst h; decide
theorem decP_err {x : Int} (hx0 : x ≠ 0) {l : List Int} {y : Int} (h : decPW x l = .error y) : y ≠ 0 := by
  unfold decPW at h
  cases e : readPW x l with
  | error c => rw [e] at h; injection h with h; subst h; exact readP_err hx0 e
  | ok v =>
    rw [e] at h
    obtain ⟨s, cs⟩ := v
    simp only at h
    split at h
    · cases h
    · rename_i h0; injection h with h; subst h; exact h0
abbrev readW (w : World) (a : Option Addr) (n c : Nat) : World := ((w.alloc (.cells #[.int .i64 0, .slice none 0 0] 28)).alloc (.cells #[.int .i64 0] 29)).alloc (.cells #[.slice a n c] 177)
theorem readW_a (w : World) (a : Option Addr) (n c : Nat) : (readW w a n c).heap[w.heap.size]? = some (.cells #[.int .i64 0, .slice none 0 0] 28) := blk_up (blk_up (blk_new w _) (up_alloc _ _)) (up_alloc _ _)
theorem readW_e (w : World) (a : Option Addr) (n c : Nat) : (readW w a n c).heap[w.heap.size + 1]? = some (.cells #[.int .i64 0] 29) := by
  have h := blk_up (blk_new (w.alloc (.cells #[.int .i64 0, .slice none 0 0] 28)) (.cells #[.int .i64 0] 29)) (up_alloc _ (.cells #[.slice a n c] 177))
  have e : (w.alloc (.cells #[.int .i64 0, .slice none 0 0] 28)).heap.size = w.heap.size + 1 := by simp
  rw [e] at h
  exact h
theorem readW_n (w : World) (a : Option Addr) (n c : Nat) : (readW w a n c).heap[w.heap.size + 1 + 1]? = some (.cells #[.slice a n c] 177) := by
  have h := blk_new ((w.alloc (.cells #[.int .i64 0, .slice none 0 0] 28)).alloc (.cells #[.int .i64 0] 29)) (.cells #[.slice a n c] 177)
  have e : ((w.alloc (.cells #[.int .i64 0, .slice none 0 0] 28)).alloc (.cells #[.int .i64 0] 29)).heap.size = w.heap.size + 1 + 1 := by simp
  rw [e] at h
  exact h
theorem readW_up (w : World) (a : Option Addr) (n c : Nat) : Below w.heap.size w (readW w a n c) := up_al (up_al (up_alloc w _) _) _
theorem readW_size (w : World) (a : Option Addr) (n c : Nat) : (readW w a n c).heap.size = w.heap.size + 1 + 1 + 1 := by simp
theorem readW_rd (w : World) (a : Option Addr) (c : Nat) (l : List Int) (h : Octs w (.slice a l.length c) l) : Rd w (readW w a l.length c) (w.heap.size + 1 + 1) l :=
  ⟨readW_up w a l.length c, by omega, a, c, readW_n w a l.length c, h⟩
theorem results_read (tmps : Array Value) (w : World) {A E : Nat} {x v y : Value} (h2 : tmps.getD 2 undef = .pointer (some ⟨A, 0, none⟩)) (h3 : tmps.getD 3 undef = .pointer (some ⟨E, 0, none⟩))
    (ha : w.heap[A]? = some (.cells #[x, v] 28)) (he : w.heap[E]? = some (.cells #[y] 29)) : (results Tryz.f85 tmps).run Tryz.prog w = .ok (.tuple #[.agg #[x, v], y]) w := by
  have c0 := blk_cell ha 0 x rfl
  have c1 := blk_cell ha 1 v rfl
  have c2 := blk_cell he 0 y rfl
  have h2' : tmps[2]?.getD undef = .pointer (some ⟨A, 0, none⟩) := by simpa using h2
  have h3' : tmps[3]?.getD undef = .pointer (some ⟨E, 0, none⟩) := by simpa using h3
  simp only [results, Tryz.results85]
  simp [h2', h3', go_sem, c0, c1, c2]
set_option maxHeartbeats 1000000 in
theorem read_bad (l : List Int) (a : Option Addr) (c : Nat) (w : World) (hv : Octs w (.slice a l.length c) l) (y : Int) (hp : batchP 4 l = .error y) :
    Calls Tryz.prog 85 #[.slice a l.length c] w fun e w' => ∃ sb ab nb cb, e = .returned (.tuple #[.agg #[.int .i64 sb, .slice ab nb cb], .int .i64 y]) ∧ Below w.heap.size w w' := by
  have hmf : ∀ (fn : Fn) (first cap : Array Value) (w : World), (Instr.makeFunc fn first cap).run Tryz.prog w = .ok (.func fn first cap) w := fun _ _ _ _ => rfl
  have HC : Hid (Calls Tryz.prog 100 #[.pointer (some ⟨w.heap.size + 1 + 1, 0, none⟩)] (readW w a l.length c) fun e w' => e = .panicked [{ v := .iface 29 (.int .i64 y), recovered := false }] ∧ Hid ((readW w a l.length c).grownBy w' (some (w.heap.size + 1 + 1)))) := by
    refine (batch_any _ l w _ (readW_rd w a c l hv)).mono ?_
    intro e w' h
    rw [hp] at h
    exact h
  clear hv hp
  go_enter_defers Tryz.func85, Tryz.ntmps85
  go_wp2_with fail
  refine HC.out.mono ?_
  rintro e w4 ⟨rfl, g4⟩
  have A4 : Hid (w4.heap[w.heap.size]? = some (.cells #[.int .i64 0, .slice none 0 0] 28)) := blk_grown (readW_a _ _ _ _) g4.out (by simp; omega)
  have E4 : Hid (w4.heap[w.heap.size + 1]? = some (.cells #[.int .i64 0] 29)) := blk_grown (readW_e _ _ _ _) g4.out (by simp)
  have U4 : Hid (Below w.heap.size w w4) := (readW_up _ _ _ _).grown g4.out (readW_up _ _ _ _).size (fun k hk => by injection hk with hk; omega)
  clear HC g4
  go_wp2
  refine leaves_cons (f := 99) (args := #[.pointer (some ⟨w.heap.size + 1, 0, none⟩)]) (by simp) (by simp [go_sem]) ?_
  refine (catch_panicking ⟨w.heap.size + 1, 0, none⟩ 0 y [] w4 (blk_cell E4.out 0 _ rfl) (blk_frozen E4.out 0)).mono ?_
  rintro e u' w'' ⟨rfl, rfl, rfl⟩
  have A5 := blk_grown A4.out (grown_set w4 ⟨w.heap.size + 1, 0, none⟩ (.int .i64 y)) (by simp)
  have E5 := blk_set E4.out 0 (.int .i64 y)
  simp [Leaves, settle]
  refine ⟨_, results_read _ _ rfl rfl A5 E5, ⟨_, _, _, _, rfl⟩, U4.out.grown (grown_set w4 ⟨w.heap.size + 1, 0, none⟩ (.int .i64 y)) U4.out.size (fun k hk => by simp at hk; omega)⟩
set_option maxHeartbeats 1000000 in
theorem read_tail (l : List Int) (a : Option Addr) (c : Nat) (w : World) (hv : Octs w (.slice a l.length c) l) (s : Int) (cs : List Chg) (t : List Int) (hp : batchP 4 l = .ok (s, cs, t)) (ht : t ≠ []) :
    Calls Tryz.prog 85 #[.slice a l.length c] w fun e w' => ∃ sb ab nb cb, e = .returned (.tuple #[.agg #[.int .i64 sb, .slice ab nb cb], .int .i64 23]) ∧ Below w.heap.size w w' := by
  have hmf : ∀ (fn : Fn) (first cap : Array Value) (w : World), (Instr.makeFunc fn first cap).run Tryz.prog w = .ok (.func fn first cap) w := fun _ _ _ _ => rfl
  have HC : Hid (Calls Tryz.prog 100 #[.pointer (some ⟨w.heap.size + 1 + 1, 0, none⟩)] (readW w a l.length c) fun e w' => ∃ a' c', e = .returned (.agg #[.int .i64 s, .slice a' cs.length c']) ∧ Hid (Rd w w' (w.heap.size + 1 + 1) t) ∧ Hid ((readW w a l.length c).grownBy w' (some (w.heap.size + 1 + 1)))) := by
    refine (batch_any _ l w _ (readW_rd w a c l hv)).mono ?_
    intro e w' h
    rw [hp] at h
    obtain ⟨a', c', rfl, _, h2, h3⟩ := h
    exact ⟨a', c', rfl, h2, h3⟩
  have hl : (0 : Int) < (t.length : Int) := by
    have := List.length_pos_iff.2 ht
    omega
  clear hv hp ht
  go_enter_defers Tryz.func85, Tryz.ntmps85
  go_wp2_with fail
  refine HC.out.mono ?_
  rintro e w4 ⟨a', c', rfl, R4, g4⟩
  have A4 : Hid (w4.heap[w.heap.size]? = some (.cells #[.int .i64 0, .slice none 0 0] 28)) := blk_grown (readW_a _ _ _ _) g4.out (by simp; omega)
  have E4 : Hid (w4.heap[w.heap.size + 1]? = some (.cells #[.int .i64 0] 29)) := blk_grown (readW_e _ _ _ _) g4.out (by simp)
  have U4 : Hid (Below w.heap.size w w4) := (readW_up _ _ _ _).grown g4.out (readW_up _ _ _ _).size (fun k hk => by injection hk with hk; omega)
  obtain ⟨_, _, ar, cr, N4', _⟩ := R4.out
  have N4 : Hid (w4.heap[w.heap.size + 1 + 1]? = some (.cells #[.slice ar t.length cr] 177)) := N4'
  clear HC g4 N4' R4
  have q0 : w4.cell? ⟨w.heap.size, 0, none⟩ = some (.int .i64 0) := blk_cell A4.out 0 _ rfl
  have q1 : w4.cell? ⟨w.heap.size, 1, none⟩ = some (.slice none 0 0) := blk_cell A4.out 1 _ rfl
  have z0 := blk_frozen A4.out 0
  have z1 := blk_frozen A4.out 1
  have n0 : w4.cell? ⟨w.heap.size + 1 + 1, 0, none⟩ = some (.slice ar t.length cr) := blk_cell N4.out 0 _ rfl
  have A5 : Hid ((set2 w4 w.heap.size (.int .i64 s) (.slice a' cs.length c')).heap[w.heap.size]? = some (.cells #[.int .i64 s, .slice a' cs.length c'] 28)) := set2_blkF A4.out _ _
  have E5 : Hid ((set2 w4 w.heap.size (.int .i64 s) (.slice a' cs.length c')).heap[w.heap.size + 1]? = some (.cells #[.int .i64 0] 29)) := blk_grown E4.out (set2_grownF _ _ _ _) (by simp)
  have U5 : Hid (Below w.heap.size w (set2 w4 w.heap.size (.int .i64 s) (.slice a' cs.length c'))) := U4.out.grown (set2_grownF _ _ _ _) U4.out.size (fun k hk => by injection hk with hk; omega)
  go_wp2
  refine leaves_cons (f := 99) (args := #[.pointer (some ⟨w.heap.size + 1, 0, none⟩)]) (by simp) (by simp [go_sem]) ?_
  refine (catch_panicking ⟨w.heap.size + 1, 0, none⟩ 0 23 [] (set2 w4 w.heap.size (.int .i64 s) (.slice a' cs.length c')) (blk_cell E5.out 0 _ rfl) (blk_frozen E5.out 0)).mono ?_
  rintro e u' w'' ⟨rfl, rfl, rfl⟩
  have A6 := blk_grown A5.out (grown_set (set2 w4 w.heap.size (.int .i64 s) (.slice a' cs.length c')) ⟨w.heap.size + 1, 0, none⟩ (.int .i64 23)) (by simp)
  have E6 := blk_set E5.out 0 (.int .i64 23)
  simp [Leaves, settle]
  refine ⟨_, results_read _ _ rfl rfl A6 E6, ⟨_, _, _, _, rfl⟩, U5.out.grown (grown_set (set2 w4 w.heap.size (.int .i64 s) (.slice a' cs.length c')) ⟨w.heap.size + 1, 0, none⟩ (.int .i64 23)) U5.out.size (fun k hk => by simp at hk; omega)⟩
set_option maxHeartbeats 1000000 in
theorem read_ok (l : List Int) (a : Option Addr) (c : Nat) (w : World) (hv : Octs w (.slice a l.length c) l) (s : Int) (cs : List Chg) (hp : batchP 4 l = .ok (s, cs, [])) :
    Calls Tryz.prog 85 #[.slice a l.length c] w fun e w' => ∃ a' c', e = .returned (.tuple #[.agg #[.int .i64 s, .slice a' cs.length c'], .int .i64 0]) ∧ Hid (OwnC w' w.heap.size (.slice a' cs.length c') cs) ∧ Hid (Below w.heap.size w w') := by
  have hmf : ∀ (fn : Fn) (first cap : Array Value) (w : World), (Instr.makeFunc fn first cap).run Tryz.prog w = .ok (.func fn first cap) w := fun _ _ _ _ => rfl
  have HC : Hid (Calls Tryz.prog 100 #[.pointer (some ⟨w.heap.size + 1 + 1, 0, none⟩)] (readW w a l.length c) fun e w' => ∃ a' c', e = .returned (.agg #[.int .i64 s, .slice a' cs.length c']) ∧ Hid (OwnC w' (w.heap.size + 1 + 1 + 1) (.slice a' cs.length c') cs) ∧ Hid (Rd w w' (w.heap.size + 1 + 1) []) ∧ Hid ((readW w a l.length c).grownBy w' (some (w.heap.size + 1 + 1)))) := by
    refine (batch_any _ l w _ (readW_rd w a c l hv)).mono ?_
    intro e w' h
    rw [hp] at h
    obtain ⟨a', c', rfl, h1, h2, h3⟩ := h
    rw [readW_size] at h1
    exact ⟨a', c', rfl, h1, h2, h3⟩
  clear hv hp
  go_enter_defers Tryz.func85, Tryz.ntmps85
  go_wp2_with fail
  refine HC.out.mono ?_
  rintro e w4 ⟨a', c', rfl, O4, R4, g4⟩
  have A4 : Hid (w4.heap[w.heap.size]? = some (.cells #[.int .i64 0, .slice none 0 0] 28)) := blk_grown (readW_a _ _ _ _) g4.out (by simp; omega)
  have E4 : Hid (w4.heap[w.heap.size + 1]? = some (.cells #[.int .i64 0] 29)) := blk_grown (readW_e _ _ _ _) g4.out (by simp)
  have U4 : Hid (Below w.heap.size w w4) := (readW_up _ _ _ _).grown g4.out (readW_up _ _ _ _).size (fun k hk => by injection hk with hk; omega)
  obtain ⟨_, _, ar, cr, N4', _⟩ := R4.out
  have N4 : Hid (w4.heap[w.heap.size + 1 + 1]? = some (.cells #[.slice ar 0 cr] 177)) := N4'
  clear HC g4 N4' R4
  have q0 : w4.cell? ⟨w.heap.size, 0, none⟩ = some (.int .i64 0) := blk_cell A4.out 0 _ rfl
  have q1 : w4.cell? ⟨w.heap.size, 1, none⟩ = some (.slice none 0 0) := blk_cell A4.out 1 _ rfl
  have z0 := blk_frozen A4.out 0
  have z1 := blk_frozen A4.out 1
  have n0 : w4.cell? ⟨w.heap.size + 1 + 1, 0, none⟩ = some (.slice ar 0 cr) := blk_cell N4.out 0 _ rfl
  have A5 : Hid ((set2 w4 w.heap.size (.int .i64 s) (.slice a' cs.length c')).heap[w.heap.size]? = some (.cells #[.int .i64 s, .slice a' cs.length c'] 28)) := set2_blkF A4.out _ _
  have E5 : Hid ((set2 w4 w.heap.size (.int .i64 s) (.slice a' cs.length c')).heap[w.heap.size + 1]? = some (.cells #[.int .i64 0] 29)) := blk_grown E4.out (set2_grownF _ _ _ _) (by simp)
  have U5 : Hid (Below w.heap.size w (set2 w4 w.heap.size (.int .i64 s) (.slice a' cs.length c'))) := U4.out.grown (set2_grownF _ _ _ _) U4.out.size (fun k hk => by injection hk with hk; omega)
  have O5 : Hid (OwnC (set2 w4 w.heap.size (.int .i64 s) (.slice a' cs.length c')) (w.heap.size + 1 + 1 + 1) (.slice a' cs.length c') cs) := O4.out.kept (set2_grownF _ _ _ _) (fun g hg => by injection hg with hg; omega)
  have e0 : w4.cell? ⟨w.heap.size + 1, 0, none⟩ = some (.int .i64 0) := blk_cell E4.out 0 _ rfl
  have ze := blk_frozen E4.out 0
  have A6 : Hid (((set2 (set2 w4 w.heap.size (.int .i64 s) (.slice a' cs.length c')) w.heap.size (.int .i64 s) (.slice a' cs.length c')).setCell ⟨w.heap.size + 1, 0, none⟩ (.int .i64 0)).heap[w.heap.size]? = some (.cells #[.int .i64 s, .slice a' cs.length c'] 28)) := blk_grown (set2_blkF A5.out _ _) (grown_set _ _ _) (by simp)
  have E6 : Hid (((set2 (set2 w4 w.heap.size (.int .i64 s) (.slice a' cs.length c')) w.heap.size (.int .i64 s) (.slice a' cs.length c')).setCell ⟨w.heap.size + 1, 0, none⟩ (.int .i64 0)).heap[w.heap.size + 1]? = some (.cells #[.int .i64 0] 29)) := blk_set (blk_grown E5.out (set2_grownF _ _ _ _) (by simp)) 0 _
  have U6 : Hid (Below w.heap.size w ((set2 (set2 w4 w.heap.size (.int .i64 s) (.slice a' cs.length c')) w.heap.size (.int .i64 s) (.slice a' cs.length c')).setCell ⟨w.heap.size + 1, 0, none⟩ (.int .i64 0))) := by
    have u := U5.out.grown (set2_grownF (set2 w4 w.heap.size (.int .i64 s) (.slice a' cs.length c')) w.heap.size (.int .i64 s) (.slice a' cs.length c')) U5.out.size (fun k hk => by simp at hk; omega)
    exact u.grown (grown_set _ ⟨w.heap.size + 1, 0, none⟩ _) u.size (fun k hk => by simp at hk; omega)
  have O6 : Hid (OwnC ((set2 (set2 w4 w.heap.size (.int .i64 s) (.slice a' cs.length c')) w.heap.size (.int .i64 s) (.slice a' cs.length c')).setCell ⟨w.heap.size + 1, 0, none⟩ (.int .i64 0)) w.heap.size (.slice a' cs.length c') cs) := by
    have u := O5.out.kept (set2_grownF (set2 w4 w.heap.size (.int .i64 s) (.slice a' cs.length c')) w.heap.size (.int .i64 s) (.slice a' cs.length c')) (fun k hk => by simp at hk; omega)
    exact OwnC.mono (u.kept (grown_set _ ⟨w.heap.size + 1, 0, none⟩ _) (fun k hk => by simp at hk; omega)) (by omega)
  go_wp2
  refine leaves_cons (f := 99) (args := #[.pointer (some ⟨w.heap.size + 1, 0, none⟩)]) (by simp) (by simp [go_sem]) ?_
  refine (catch_idle ⟨w.heap.size + 1, 0, none⟩ _).mono ?_
  rintro e u' w'' ⟨rfl, rfl, rfl⟩
  simp [Leaves, settle]
  exact ⟨_, results_read _ _ rfl rfl A6.out E6.out, ⟨_, _, rfl, O6, U6⟩⟩
end Go.Proofs.YthiegmhplnbdlaaGreat

namespace Go.Proofs.YthiegmhplnbdlaaGreat
open Go.RowKit SumPlain
set_option linter.unusedVariables false
theorem read_err (l : List Int) (a : Option Addr) (c : Nat) (w : World) (hv : Octs w (.slice a l.length c) l) (y : Int) (hp : readPW 4 l = .error y) :
    Calls Tryz.prog 85 #[.slice a l.length c] w fun e w' => ∃ sb ab nb cb, e = .returned (.tuple #[.agg #[.int .i64 sb, .slice ab nb cb], .int .i64 y]) ∧ Below w.heap.size w w' := by
  unfold readPW at hp
  cases h : batchP 4 l with
  | error x =>
    rw [h] at hp
    injection hp with hp
    subst hp
    exact read_bad l a c w hv _ h
  | ok v =>
    rw [h] at hp
    obtain ⟨s, cs, t⟩ := v
    simp only at hp
    by_cases ht : t = []
    · rw [if_pos ht] at hp; cases hp
    · rw [if_neg ht] at hp
      injection hp with hp
      subst hp
      exact read_tail l a c w hv s cs t h ht
theorem read_got (l : List Int) (a : Option Addr) (c : Nat) (w : World) (hv : Octs w (.slice a l.length c) l) (s : Int) (cs : List Chg) (hp : readPW 4 l = .ok (s, cs)) :
    Calls Tryz.prog 85 #[.slice a l.length c] w fun e w' => ∃ a' c', e = .returned (.tuple #[.agg #[.int .i64 s, .slice a' cs.length c'], .int .i64 0]) ∧ Hid (OwnC w' w.heap.size (.slice a' cs.length c') cs) ∧ Hid (Below w.heap.size w w') := by
  unfold readPW at hp
  cases h : batchP 4 l with
  | error x => rw [h] at hp; cases hp
  | ok v =>
    rw [h] at hp
    obtain ⟨s', cs', t⟩ := v
    simp only at hp
    by_cases ht : t = []
    · rw [if_pos ht] at hp
      simp only [Except.ok.injEq, Prod.mk.injEq] at hp
      obtain ⟨rfl, rfl⟩ := hp
      subst ht
      exact read_ok l a c w hv _ _ h
    · rw [if_neg ht] at hp; cases hp
theorem results_bat2 {fn : Func} {t : TypeId} (h : fn.results = #[.cell 2 t, .tmp 3]) (hl : t = 28 ∨ t = 28) (tmps : Array Value) (w : World) {N : Nat} {a b : Value} (ht : tmps.getD 2 undef = .pointer (some ⟨N, 0, none⟩))
    (hc : w.heap[N]? = some (.cells #[a, b] t)) : (results fn tmps).run Tryz.prog w = .ok (.tuple #[.agg #[a, b], tmps.getD 3 undef]) w := by
  have c0 := blk_cell hc 0 a rfl
  have c1 := blk_cell hc 1 b rfl
  have ht' : tmps[2]?.getD undef = .pointer (some ⟨N, 0, none⟩) := by simpa using ht
  rcases hl with rfl | rfl
  · simp only [results, h]
    simp [ht', go_sem, c0, c1]
  · simp only [results, h]
    simp [ht', go_sem, c0, c1]
set_option maxHeartbeats 1000000 in
theorem decode_err (l : List Int) (a : Option Addr) (c : Nat) (w : World) (hv : Octs w (.slice a l.length c) l) (y : Int) (hp : readPW 4 l = .error y) :
    Calls Tryz.prog 54 #[.slice a l.length c] w fun e w' => e = .returned (.tuple #[.agg #[.int .i64 0, .slice none 0 0], .int .i64 y]) ∧ Below w.heap.size w w' := by
  have hy := readP_err (by decide) hp
  have y1 : (y == 0) = false := by simp [hy]
  have HV : Hid (Octs (w.alloc (.cells #[.int .i64 0, .slice none 0 0] 28)) (.slice a l.length c) l) := hv.up (up_alloc _ _)
  clear hv
  go_enter Tryz.func54, Tryz.ntmps54
  go_wp2_with fail
  refine (read_err l a c _ HV.out y hp).mono ?_
  rintro e w1 ⟨sb, ab, nb, cb, rfl, b1⟩
  have U1 : Hid (Below w.heap.size w w1) := up_trans (up_alloc w _) b1
  have D1 : Hid (w1.heap[w.heap.size]? = some (.cells #[.int .i64 0, .slice none 0 0] 28)) := blk_up (blk_new w _) b1
  clear b1
  have D2 : Hid ((w1.alloc (.cells #[.int .i64 sb, .slice ab nb cb] 28)).heap[w.heap.size]? = some (.cells #[.int .i64 0, .slice none 0 0] 28)) := blk_up D1.out (up_alloc _ _)
  have U2 : Hid (Below w.heap.size w (w1.alloc (.cells #[.int .i64 sb, .slice ab nb cb] 28))) := up_al U1.out _
  have q0 : ∀ o, (w1.alloc o).cell? ⟨w.heap.size, 0, none⟩ = some (.int .i64 0) := fun o => blk_cell (blk_up D1.out (up_alloc _ _)) 0 _ rfl
  have q1 : ∀ o, (w1.alloc o).cell? ⟨w.heap.size, 1, none⟩ = some (.slice none 0 0) := fun o => blk_cell (blk_up D1.out (up_alloc _ _)) 1 _ rfl
  have z0 : ∀ o, (w1.alloc o).frozen? ⟨w.heap.size, 0, none⟩ = false := fun o => blk_frozen (blk_up D1.out (up_alloc _ _)) 0
  have z1 : ∀ o, (w1.alloc o).frozen? ⟨w.heap.size, 1, none⟩ = false := fun o => blk_frozen (blk_up D1.out (up_alloc _ _)) 1
  go_wp2
  refine bodyPost_ret (results_bat2 rfl (.inl rfl) _ _ rfl (set2_blkF D2.out _ _)) rfl ?_
  exact ⟨rfl, U2.out.grown (set2_grownF _ _ _ _) U2.out.size (fun k hk => by injection hk with hk; omega)⟩
set_option maxHeartbeats 1000000 in
theorem decode_check (l : List Int) (a : Option Addr) (c : Nat) (w : World) (hv : Octs w (.slice a l.length c) l) (s : Int) (cs : List Chg) (hp : readPW 4 l = .ok (s, cs)) (hz : checkOf s cs ≠ 0) :
    Calls Tryz.prog 54 #[.slice a l.length c] w fun e w' => e = .returned (.tuple #[.agg #[.int .i64 0, .slice none 0 0], .int .i64 (checkOf s cs)]) ∧ Below w.heap.size w w' := by
  have y1 : (checkOf s cs == 0) = false := by simp [hz]
  have HV : Hid (Octs (w.alloc (.cells #[.int .i64 0, .slice none 0 0] 28)) (.slice a l.length c) l) := hv.up (up_alloc _ _)
  clear hv
  go_enter Tryz.func54, Tryz.ntmps54
  go_wp2_with fail
  refine (read_got l a c _ HV.out s cs hp).mono ?_
  rintro e w1 ⟨a', c', rfl, O1, b1⟩
  have U1 : Hid (Below w.heap.size w w1) := up_trans (up_alloc w _) b1.out
  have D1 : Hid (w1.heap[w.heap.size]? = some (.cells #[.int .i64 0, .slice none 0 0] 28)) := blk_up (blk_new w _) b1.out
  clear b1
  go_wp2_with fail
  refine (check_anyW s cs a' c' _ (O1.out.up (up_alloc _ _)).read).mono ?_
  rintro e w2 ⟨rfl, b2⟩
  have U2 : Hid (Below w.heap.size w w2) := up_trans (up_al U1.out _) b2
  have D2 : Hid (w2.heap[w.heap.size]? = some (.cells #[.int .i64 0, .slice none 0 0] 28)) := blk_up (blk_up D1.out (up_alloc _ _)) b2
  clear b2 O1 U1 D1
  have q0 : w2.cell? ⟨w.heap.size, 0, none⟩ = some (.int .i64 0) := blk_cell D2.out 0 _ rfl
  have q1 : w2.cell? ⟨w.heap.size, 1, none⟩ = some (.slice none 0 0) := blk_cell D2.out 1 _ rfl
  have z0 := blk_frozen D2.out 0
  have z1 := blk_frozen D2.out 1
  go_wp2
  refine bodyPost_ret (results_bat2 rfl (.inl rfl) _ _ rfl (set2_blkF D2.out _ _)) rfl ?_
  exact ⟨rfl, U2.out.grown (set2_grownF _ _ _ _) U2.out.size (fun k hk => by injection hk with hk; omega)⟩
theorem decode_bad (l : List Int) (a : Option Addr) (c : Nat) (w : World) (hv : Octs w (.slice a l.length c) l) (y : Int) (hp : decPW 4 l = .error y) :
    Calls Tryz.prog 54 #[.slice a l.length c] w fun e w' => e = .returned (.tuple #[.agg #[.int .i64 0, .slice none 0 0], .int .i64 y]) ∧ Below w.heap.size w w' := by
  unfold decPW at hp
  cases h : readPW 4 l with
  | error x =>
    rw [h] at hp
    injection hp with hp
    subst hp
    exact decode_err l a c w hv _ h
  | ok v =>
    rw [h] at hp
    obtain ⟨s, cs⟩ := v
    simp only at hp
    by_cases hz : checkOf s cs = 0
    · rw [if_pos hz] at hp; cases hp
    · rw [if_neg hz] at hp
      injection hp with hp
      subst hp
      exact decode_check l a c w hv s cs h hz
set_option maxHeartbeats 1000000 in
theorem decode_ok (l : List Int) (a : Option Addr) (c : Nat) (w : World) (hv : Octs w (.slice a l.length c) l) (s : Int) (cs : List Chg) (hp : decPW 4 l = .ok (s, cs)) :
    Calls Tryz.prog 54 #[.slice a l.length c] w fun e w' => ∃ a' c', e = .returned (.tuple #[.agg #[.int .i64 s, .slice a' cs.length c'], .int .i64 0]) ∧ Hid (OwnC w' w.heap.size (.slice a' cs.length c') cs) ∧ Hid (Below w.heap.size w w') := by
  have hr : readPW 4 l = .ok (s, cs) ∧ checkOf s cs = 0 := by
    unfold decPW at hp
    cases h : readPW 4 l with
    | error x => rw [h] at hp; cases hp
    | ok v =>
      rw [h] at hp
      obtain ⟨s', cs'⟩ := v
      simp only at hp
      by_cases hz : checkOf s' cs' = 0
      · rw [if_pos hz] at hp
        simp only [Except.ok.injEq, Prod.mk.injEq] at hp
        obtain ⟨rfl, rfl⟩ := hp
        exact ⟨rfl, hz⟩
      · rw [if_neg hz] at hp; cases hp
  obtain ⟨hr, hz⟩ := hr
  have HV : Hid (Octs (w.alloc (.cells #[.int .i64 0, .slice none 0 0] 28)) (.slice a l.length c) l) := hv.up (up_alloc _ _)
  have HK : Hid (∀ (a' : Option Addr) (c' : Nat) (wx : World), ChgsR wx (.slice a' cs.length c') cs → Calls Tryz.prog 5 #[.agg #[.int .i64 s, .slice a' cs.length c']] wx fun e w' => e = .returned (.int .i64 0) ∧ Below wx.heap.size wx w') := by
    intro a' c' wx h
    have := check_anyW s cs a' c' wx h
    rw [hz] at this
    exact this
  clear hv hp hz
  go_enter Tryz.func54, Tryz.ntmps54
  go_wp2_with fail
  refine (read_got l a c _ HV.out s cs hr).mono ?_
  rintro e w1 ⟨a', c', rfl, O1, b1⟩
  have U1 : Hid (Below w.heap.size w w1) := up_trans (up_alloc w _) b1.out
  have D1 : Hid (w1.heap[w.heap.size]? = some (.cells #[.int .i64 0, .slice none 0 0] 28)) := blk_up (blk_new w _) b1.out
  have S1 : Hid (w.heap.size < w1.heap.size) := blk_lt D1.out
  have O1' : Hid (OwnC w1 (w.heap.size + 1) (.slice a' cs.length c') cs) := by
    have h := O1.out
    have e : (w.alloc (.cells #[.int .i64 0, .slice none 0 0] 28)).heap.size = w.heap.size + 1 := by simp
    rw [e] at h
    exact h
  clear b1 O1
  go_wp2_with fail
  refine (HK.out a' c' _ (O1'.out.up (up_alloc _ _)).read).mono ?_
  rintro e w2 ⟨rfl, b2⟩
  have U2 : Hid (Below w.heap.size w w2) := up_trans (up_al U1.out _) b2
  have D2 : Hid (w2.heap[w.heap.size]? = some (.cells #[.int .i64 0, .slice none 0 0] 28)) := blk_up (blk_up D1.out (up_alloc _ _)) b2
  have E2 : Hid (w2.heap[w1.heap.size]? = some (.cells #[.int .i64 s, .slice a' cs.length c'] 28)) := blk_up (blk_new w1 _) b2
  have O2 : Hid (OwnC w2 (w.heap.size + 1) (.slice a' cs.length c') cs) := (O1'.out.up (up_alloc _ _)).up b2
  clear b2 O1' U1 D1 HK
  have q0 : w2.cell? ⟨w.heap.size, 0, none⟩ = some (.int .i64 0) := blk_cell D2.out 0 _ rfl
  have q1 : w2.cell? ⟨w.heap.size, 1, none⟩ = some (.slice none 0 0) := blk_cell D2.out 1 _ rfl
  have z0 := blk_frozen D2.out 0
  have z1 := blk_frozen D2.out 1
  have x0 : w2.cell? ⟨w1.heap.size, 0, none⟩ = some (.int .i64 s) := blk_cell E2.out 0 _ rfl
  have x1 : w2.cell? ⟨w1.heap.size, 1, none⟩ = some (.slice a' cs.length c') := blk_cell E2.out 1 _ rfl
  go_wp2
  refine bodyPost_ret (results_bat2 rfl (.inl rfl) _ _ rfl (set2_blkF D2.out _ _)) rfl ?_
  exact ⟨_, _, rfl, OwnC.mono (O2.out.kept (set2_grownF _ _ _ _) (fun g hg => by injection hg with hg; omega)) (by omega), U2.out.grown (set2_grownF _ _ _ _) U2.out.size (fun k hk => by injection hk with hk; omega)⟩
end Go.Proofs.YthiegmhplnbdlaaGreat
