/- Decode of layer 6. -/
import Derived.Test.YtgphkddcfcmaiaaWDec2
namespace Go.Proofs.Ytgphkddcfcmaiaa
open Go.RowKit SumPlain
set_option linter.unusedVariables false

theorem read_err (l : List Int) (a : Option Addr) (c : Nat) (w : World) (hv : Octs w (.slice a l.length c) l) (y : Int) (hp : readP 4 l = .error y) :
    Calls Try.prog 35 #[.slice a l.length c] w fun e w' => ∃ sb ab nb cb, e = .returned (.tuple #[.agg #[.int .i64 sb, .slice ab nb cb], .int .i64 y]) ∧ Below w.heap.size w w' := by
  unfold readP at hp
  cases h : batchP 4 l with
  | error x =>
    rw [h] at hp
    injection hp with hp
    subst hp
    exact read_bad l a c w hv _ h
  | ok v =>
    rw [h] at hp
    obtain ⟨s, cs, t⟩ := v
    simp only at hp
    by_cases ht : t = []
    · rw [if_pos ht] at hp; cases hp
    · rw [if_neg ht] at hp
      injection hp with hp
      subst hp
      exact read_tail l a c w hv s cs t h ht

theorem read_got (l : List Int) (a : Option Addr) (c : Nat) (w : World) (hv : Octs w (.slice a l.length c) l) (s : Int) (cs : List Chg) (hp : readP 4 l = .ok (s, cs)) :
    Calls Try.prog 35 #[.slice a l.length c] w fun e w' => ∃ a' c', e = .returned (.tuple #[.agg #[.int .i64 s, .slice a' cs.length c'], .int .i64 0]) ∧ Hid (OwnC w' w.heap.size (.slice a' cs.length c') cs) ∧ Hid (Below w.heap.size w w') := by
  unfold readP at hp
  cases h : batchP 4 l with
  | error x => rw [h] at hp; cases hp
  | ok v =>
    rw [h] at hp
    obtain ⟨s', cs', t⟩ := v
    simp only at hp
    by_cases ht : t = []
    · rw [if_pos ht] at hp
      simp only [Except.ok.injEq, Prod.mk.injEq] at hp
      obtain ⟨rfl, rfl⟩ := hp
      subst ht
      exact read_ok l a c w hv _ _ h
    · rw [if_neg ht] at hp; cases hp

theorem results_bat2 {fn : Func} {t : TypeId} (h : fn.results = #[.cell 2 t, .tmp 3]) (hl : t = 26 ∨ t = 24) (tmps : Array Value) (w : World) {N : Nat} {a b : Value} (ht : tmps.getD 2 undef = .pointer (some ⟨N, 0, none⟩))
    (hc : w.heap[N]? = some (.cells #[a, b] t)) : (results fn tmps).run Try.prog w = .ok (.tuple #[.agg #[a, b], tmps.getD 3 undef]) w := by
  have c0 := blk_cell hc 0 a rfl
  have c1 := blk_cell hc 1 b rfl
  have ht' : tmps[2]?.getD undef = .pointer (some ⟨N, 0, none⟩) := by simpa using ht
  rcases hl with rfl | rfl
  · simp only [results, h]
    simp [ht', go_sem, c0, c1]
  · simp only [results, h]
    simp [ht', go_sem, c0, c1]

set_option maxHeartbeats 1000000 in
theorem decode_err (l : List Int) (a : Option Addr) (c : Nat) (w : World) (hv : Octs w (.slice a l.length c) l) (y : Int) (hp : readP 4 l = .error y) :
    Calls Try.prog 13 #[.slice a l.length c] w fun e w' => e = .returned (.tuple #[.agg #[.int .i64 0, .slice none 0 0], .int .i64 y]) ∧ Below w.heap.size w w' := by
  have hy := readP_err (by decide) hp
  have y1 : (y == 0) = false := by simp [hy]
  have HV : Hid (Octs (w.alloc (.cells #[.int .i64 0, .slice none 0 0] 26)) (.slice a l.length c) l) := hv.up (up_alloc _ _)
  clear hv
  go_enter Try.func13, Try.ntmps13
  go_wp2_with fail
  refine (read_err l a c _ HV.out y hp).mono ?_
  rintro e w1 ⟨sb, ab, nb, cb, rfl, b1⟩
  have U1 : Hid (Below w.heap.size w w1) := up_trans (up_alloc w _) b1
  have D1 : Hid (w1.heap[w.heap.size]? = some (.cells #[.int .i64 0, .slice none 0 0] 26)) := blk_up (blk_new w _) b1
  clear b1
  have D2 : Hid ((w1.alloc (.cells #[.int .i64 sb, .slice ab nb cb] 26)).heap[w.heap.size]? = some (.cells #[.int .i64 0, .slice none 0 0] 26)) := blk_up D1.out (up_alloc _ _)
  have U2 : Hid (Below w.heap.size w (w1.alloc (.cells #[.int .i64 sb, .slice ab nb cb] 26))) := up_al U1.out _
  have q0 : ∀ o, (w1.alloc o).cell? ⟨w.heap.size, 0, none⟩ = some (.int .i64 0) := fun o => blk_cell (blk_up D1.out (up_alloc _ _)) 0 _ rfl
  have q1 : ∀ o, (w1.alloc o).cell? ⟨w.heap.size, 1, none⟩ = some (.slice none 0 0) := fun o => blk_cell (blk_up D1.out (up_alloc _ _)) 1 _ rfl
  have z0 : ∀ o, (w1.alloc o).frozen? ⟨w.heap.size, 0, none⟩ = false := fun o => blk_frozen (blk_up D1.out (up_alloc _ _)) 0
  have z1 : ∀ o, (w1.alloc o).frozen? ⟨w.heap.size, 1, none⟩ = false := fun o => blk_frozen (blk_up D1.out (up_alloc _ _)) 1
  go_wp2
  refine bodyPost_ret (results_bat2 rfl (.inl rfl) _ _ rfl (set2_blk D2.out _ _)) rfl ?_
  exact ⟨rfl, U2.out.grown (set2_grown _ _ _ _) U2.out.size (fun k hk => by injection hk with hk; omega)⟩

set_option maxHeartbeats 1000000 in
theorem decode_check (l : List Int) (a : Option Addr) (c : Nat) (w : World) (hv : Octs w (.slice a l.length c) l) (s : Int) (cs : List Chg) (hp : readP 4 l = .ok (s, cs)) (hz : checkOf s cs ≠ 0) :
    Calls Try.prog 13 #[.slice a l.length c] w fun e w' => e = .returned (.tuple #[.agg #[.int .i64 0, .slice none 0 0], .int .i64 (checkOf s cs)]) ∧ Below w.heap.size w w' := by
  have y1 : (checkOf s cs == 0) = false := by simp [hz]
  have HV : Hid (Octs (w.alloc (.cells #[.int .i64 0, .slice none 0 0] 26)) (.slice a l.length c) l) := hv.up (up_alloc _ _)
  clear hv
  go_enter Try.func13, Try.ntmps13
  go_wp2_with fail
  refine (read_got l a c _ HV.out s cs hp).mono ?_
  rintro e w1 ⟨a', c', rfl, O1, b1⟩
  have U1 : Hid (Below w.heap.size w w1) := up_trans (up_alloc w _) b1.out
  have D1 : Hid (w1.heap[w.heap.size]? = some (.cells #[.int .i64 0, .slice none 0 0] 26)) := blk_up (blk_new w _) b1.out
  clear b1
  go_wp2_with fail
  refine (check_any s cs a' c' _ (O1.out.up (up_alloc _ _)).read).mono ?_
  rintro e w2 ⟨rfl, b2⟩
  have U2 : Hid (Below w.heap.size w w2) := up_trans (up_al U1.out _) b2
  have D2 : Hid (w2.heap[w.heap.size]? = some (.cells #[.int .i64 0, .slice none 0 0] 26)) := blk_up (blk_up D1.out (up_alloc _ _)) b2
  clear b2 O1 U1 D1
  have q0 : w2.cell? ⟨w.heap.size, 0, none⟩ = some (.int .i64 0) := blk_cell D2.out 0 _ rfl
  have q1 : w2.cell? ⟨w.heap.size, 1, none⟩ = some (.slice none 0 0) := blk_cell D2.out 1 _ rfl
  have z0 := blk_frozen D2.out 0
  have z1 := blk_frozen D2.out 1
  go_wp2
  refine bodyPost_ret (results_bat2 rfl (.inl rfl) _ _ rfl (set2_blk D2.out _ _)) rfl ?_
  exact ⟨rfl, U2.out.grown (set2_grown _ _ _ _) U2.out.size (fun k hk => by injection hk with hk; omega)⟩

theorem decode_bad (l : List Int) (a : Option Addr) (c : Nat) (w : World) (hv : Octs w (.slice a l.length c) l) (y : Int) (hp : decP 4 l = .error y) :
    Calls Try.prog 13 #[.slice a l.length c] w fun e w' => e = .returned (.tuple #[.agg #[.int .i64 0, .slice none 0 0], .int .i64 y]) ∧ Below w.heap.size w w' := by
  unfold decP at hp
  cases h : readP 4 l with
  | error x =>
    rw [h] at hp
    injection hp with hp
    subst hp
    exact decode_err l a c w hv _ h
  | ok v =>
    rw [h] at hp
    obtain ⟨s, cs⟩ := v
    simp only at hp
    by_cases hz : checkOf s cs = 0
    · rw [if_pos hz] at hp; cases hp
    · rw [if_neg hz] at hp
      injection hp with hp
      subst hp
      exact decode_check l a c w hv s cs h hz

set_option maxHeartbeats 1000000 in
theorem decode_ok (l : List Int) (a : Option Addr) (c : Nat) (w : World) (hv : Octs w (.slice a l.length c) l) (s : Int) (cs : List Chg) (hp : decP 4 l = .ok (s, cs)) :
    Calls Try.prog 13 #[.slice a l.length c] w fun e w' => ∃ a' c', e = .returned (.tuple #[.agg #[.int .i64 s, .slice a' cs.length c'], .int .i64 0]) ∧ Hid (OwnC w' w.heap.size (.slice a' cs.length c') cs) ∧ Hid (Below w.heap.size w w') := by
  have hr : readP 4 l = .ok (s, cs) ∧ checkOf s cs = 0 := by
    unfold decP at hp
    cases h : readP 4 l with
    | error x => rw [h] at hp; cases hp
    | ok v =>
      rw [h] at hp
      obtain ⟨s', cs'⟩ := v
      simp only at hp
      by_cases hz : checkOf s' cs' = 0
      · rw [if_pos hz] at hp
        simp only [Except.ok.injEq, Prod.mk.injEq] at hp
        obtain ⟨rfl, rfl⟩ := hp
        exact ⟨rfl, hz⟩
      · rw [if_neg hz] at hp; cases hp
  obtain ⟨hr, hz⟩ := hr
  have HV : Hid (Octs (w.alloc (.cells #[.int .i64 0, .slice none 0 0] 26)) (.slice a l.length c) l) := hv.up (up_alloc _ _)
  have HK : Hid (∀ (a' : Option Addr) (c' : Nat) (wx : World), ChgsR wx (.slice a' cs.length c') cs → Calls Try.prog 21 #[.agg #[.int .i64 s, .slice a' cs.length c']] wx fun e w' => e = .returned (.int .i64 0) ∧ Below wx.heap.size wx w') := by
    intro a' c' wx h
    have := check_any s cs a' c' wx h
    rw [hz] at this
    exact this
  clear hv hp hz
  go_enter Try.func13, Try.ntmps13
  go_wp2_with fail
  refine (read_got l a c _ HV.out s cs hr).mono ?_
  rintro e w1 ⟨a', c', rfl, O1, b1⟩
  have U1 : Hid (Below w.heap.size w w1) := up_trans (up_alloc w _) b1.out
  have D1 : Hid (w1.heap[w.heap.size]? = some (.cells #[.int .i64 0, .slice none 0 0] 26)) := blk_up (blk_new w _) b1.out
  have S1 : Hid (w.heap.size < w1.heap.size) := blk_lt D1.out
  have O1' : Hid (OwnC w1 (w.heap.size + 1) (.slice a' cs.length c') cs) := by
    have h := O1.out
    have e : (w.alloc (.cells #[.int .i64 0, .slice none 0 0] 26)).heap.size = w.heap.size + 1 := by simp
    rw [e] at h
    exact h
  clear b1 O1
  go_wp2_with fail
  refine (HK.out a' c' _ (O1'.out.up (up_alloc _ _)).read).mono ?_
  rintro e w2 ⟨rfl, b2⟩
  have U2 : Hid (Below w.heap.size w w2) := up_trans (up_al U1.out _) b2
  have D2 : Hid (w2.heap[w.heap.size]? = some (.cells #[.int .i64 0, .slice none 0 0] 26)) := blk_up (blk_up D1.out (up_alloc _ _)) b2
  have E2 : Hid (w2.heap[w1.heap.size]? = some (.cells #[.int .i64 s, .slice a' cs.length c'] 26)) := blk_up (blk_new w1 _) b2
  have O2 : Hid (OwnC w2 (w.heap.size + 1) (.slice a' cs.length c') cs) := (O1'.out.up (up_alloc _ _)).up b2
  clear b2 O1' U1 D1 HK
  have q0 : w2.cell? ⟨w.heap.size, 0, none⟩ = some (.int .i64 0) := blk_cell D2.out 0 _ rfl
  have q1 : w2.cell? ⟨w.heap.size, 1, none⟩ = some (.slice none 0 0) := blk_cell D2.out 1 _ rfl
  have z0 := blk_frozen D2.out 0
  have z1 := blk_frozen D2.out 1
  have x0 : w2.cell? ⟨w1.heap.size, 0, none⟩ = some (.int .i64 s) := blk_cell E2.out 0 _ rfl
  have x1 : w2.cell? ⟨w1.heap.size, 1, none⟩ = some (.slice a' cs.length c') := blk_cell E2.out 1 _ rfl
  go_wp2
  refine bodyPost_ret (results_bat2 rfl (.inl rfl) _ _ rfl (set2_blk D2.out _ _)) rfl ?_
  exact ⟨_, _, rfl, OwnC.mono (O2.out.kept (set2_grown _ _ _ _) (fun g hg => by injection hg with hg; omega)) (by omega), U2.out.grown (set2_grown _ _ _ _) U2.out.size (fun k hk => by injection hk with hk; omega)⟩
end Go.Proofs.Ytgphkddcfcmaiaa
