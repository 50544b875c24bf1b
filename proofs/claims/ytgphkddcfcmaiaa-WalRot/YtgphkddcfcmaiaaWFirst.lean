/- The first batch of a log; batches in memory. -/
import Derived.Test.YtgphkddcfcmaiaaWDec3
namespace Go.Proofs.Ytgphkddcfcmaiaa
open Go.RowKit SumPlain
set_option linter.unusedVariables false

theorem behind_any (s : Int) (a : Option Addr) (n c : Nat) (w : World) (h0 : 0 ≤ s) (h1 : s ≤ 1099511627776) (hn : n ≤ 64) :
    Calls Try.prog 45 #[.agg #[.int .i64 s, .slice a n c]] w fun e w' => e = .returned (.int .i64 (s + (n : Int))) ∧ w' = w.alloc (.cells #[.int .i64 s, .slice a n c] 26) := by
  go_enter Try.func45, Try.ntmps45
  go_wp2
  go_ret
  exact ⟨rfl, rfl⟩

theorem results_bat3 {fn : Func} {t : TypeId} (h : fn.results = #[.cell 2 t, .tmp 3, .tmp 4]) (hl : t = 26 ∨ t = 24) (tmps : Array Value) (w : World) {N : Nat} {a b : Value} (ht : tmps.getD 2 undef = .pointer (some ⟨N, 0, none⟩))
    (hc : w.heap[N]? = some (.cells #[a, b] t)) : (results fn tmps).run Try.prog w = .ok (.tuple #[.agg #[a, b], tmps.getD 3 undef, tmps.getD 4 undef]) w := by
  have c0 := blk_cell hc 0 a rfl
  have c1 := blk_cell hc 1 b rfl
  have ht' : tmps[2]?.getD undef = .pointer (some ⟨N, 0, none⟩) := by simpa using ht
  rcases hl with rfl | rfl
  · simp only [results, h]
    simp [ht', go_sem, c0, c1]
  · simp only [results, h]
    simp [ht', go_sem, c0, c1]

/-- A record is read, whatever it is. -/
theorem fget_shape (b : List Int) (v : Value) (w : World) (hv : Octs w v b) :
    Calls Try.prog 55 #[v] w fun e w' => ∃ ad cd, e = .returned (.tuple #[.agg #[.int .i64 (fget b).1, .slice ad (fget b).2.1.length cd], .int .i64 (fget b).2.2.1, .int .i64 (fget b).2.2.2]) ∧ Hid (Octs w' (.slice ad (fget b).2.1.length cd) (fget b).2.1) ∧ Hid (Below w.heap.size w w') := by
  refine (fget_any b v w hv).mono ?_
  rintro e w' ⟨vd, rfl, hn, hb⟩
  obtain ⟨ad, cd, rfl, _, _⟩ := hn.1.len
  exact ⟨ad, cd, rfl, hn.1, hb⟩

set_option maxHeartbeats 1000000 in
theorem first_none (b : List Int) (v : Value) (w : World) (hv : Octs w v b) (hp : firstP 4 b = none) :
    Calls Try.prog 44 #[v] w fun e w' => ∃ sb ab nb cb n y, e = .returned (.tuple #[.agg #[.int .i64 sb, .slice ab nb cb], .int .i64 n, .int .i64 y]) ∧ Hid (y ≠ 0) ∧ Hid (Below w.heap.size w w') := by
  obtain ⟨a, cap, rfl, _, _⟩ := hv.len
  have HV : Hid (∀ o, Octs (w.alloc o) (.slice a b.length cap) b) := fun o => hv.up (up_alloc w o)
  clear hv
  have HG := fun o => fget_shape b _ _ (HV.out o)
  obtain ⟨k0, d0, z0, e0, hE⟩ : ∃ k0 d0 z0 e0, fget b = (k0, d0, z0, e0) := ⟨_, _, _, _, rfl⟩
  unfold firstP at hp
  simp only [hE] at HG hp
  have HG' : Hid (∀ o, Calls Try.prog 55 #[.slice a b.length cap] (w.alloc o) fun e w' => ∃ ad cd, e = .returned (.tuple #[.agg #[.int .i64 k0, .slice ad d0.length cd], .int .i64 z0, .int .i64 e0]) ∧ Hid (Octs w' (.slice ad d0.length cd) d0) ∧ Hid (Below (w.alloc o).heap.size (w.alloc o) w')) := HG
  clear HG hE HV
  by_cases he : e0 = 0
  · subst he
    by_cases hk : k0 = 1
    · subst hk
      simp only [and_self, if_true] at hp
      cases hd : decP 4 d0 with
      | ok v => rw [hd] at hp; cases hp
      | error y =>
        have hy := decP_err (by decide) hd
        clear hp
        go_enter Try.func44, Try.ntmps44
        go_wp2_with fail
        refine (HG'.out _).mono ?_
        rintro e w1 ⟨ad, cd, rfl, O1, B1⟩
        have D1 : Hid (w1.heap[w.heap.size]? = some (.cells #[.int .i64 0, .slice none 0 0] 26)) := blk_up (blk_new w _) B1.out
        have U1 : Hid (Below w.heap.size w w1) := up_trans (up_alloc w _) B1.out
        clear B1 HG'
        go_wp2_with fail
        refine (decode_bad d0 ad cd _ (O1.out.up (up_alloc _ _)) y hd).mono ?_
        rintro e w2 ⟨rfl, b2⟩
        have D2 : Hid (w2.heap[w.heap.size]? = some (.cells #[.int .i64 0, .slice none 0 0] 26)) := blk_up (blk_up D1.out (up_alloc _ _)) b2
        have U2 : Hid (Below w.heap.size w w2) := up_trans (up_al U1.out _) b2
        have D3 : Hid ((w2.alloc (.cells #[.int .i64 0, .slice none 0 0] 26)).heap[w.heap.size]? = some (.cells #[.int .i64 0, .slice none 0 0] 26)) := blk_up D2.out (up_alloc _ _)
        have U3 : Hid (Below w.heap.size w (w2.alloc (.cells #[.int .i64 0, .slice none 0 0] 26))) := up_al U2.out _
        have q0 : ∀ o, (w2.alloc o).cell? ⟨w.heap.size, 0, none⟩ = some (.int .i64 0) := fun o => blk_cell (blk_up D2.out (up_alloc _ _)) 0 _ rfl
        have q1 : ∀ o, (w2.alloc o).cell? ⟨w.heap.size, 1, none⟩ = some (.slice none 0 0) := fun o => blk_cell (blk_up D2.out (up_alloc _ _)) 1 _ rfl
        have z0 : ∀ o, (w2.alloc o).frozen? ⟨w.heap.size, 0, none⟩ = false := fun o => blk_frozen (blk_up D2.out (up_alloc _ _)) 0
        have z1 : ∀ o, (w2.alloc o).frozen? ⟨w.heap.size, 1, none⟩ = false := fun o => blk_frozen (blk_up D2.out (up_alloc _ _)) 1
        clear b2 hd O1
        go_wp2
        refine bodyPost_ret (results_bat3 rfl (.inl rfl) _ _ rfl (set2_blk D3.out _ _)) rfl ?_
        exact ⟨_, _, _, _, _, _, rfl, hy, U3.out.grown (set2_grown _ _ _ _) U3.out.size (fun k hk => by injection hk with hk; omega)⟩
    · have hk1 : (k0 == 1) = false := by simp [hk]
      have hk2 : (k0 != 1) = true := by simp [hk]
      clear hp
      go_enter Try.func44, Try.ntmps44
      go_wp2_with fail
      refine (HG'.out _).mono ?_
      rintro e w1 ⟨ad, cd, rfl, O1, B1⟩
      have D1 : Hid (w1.heap[w.heap.size]? = some (.cells #[.int .i64 0, .slice none 0 0] 26)) := blk_up (blk_new w _) B1.out
      have U1 : Hid (Below w.heap.size w w1) := up_trans (up_alloc w _) B1.out
      have D3 : Hid ((w1.alloc (.cells #[.int .i64 k0, .slice ad d0.length cd] 86)).heap[w.heap.size]? = some (.cells #[.int .i64 0, .slice none 0 0] 26)) := blk_up D1.out (up_alloc _ _)
      have U3 : Hid (Below w.heap.size w (w1.alloc (.cells #[.int .i64 k0, .slice ad d0.length cd] 86))) := up_al U1.out _
      have q0 : ∀ o, (w1.alloc o).cell? ⟨w.heap.size, 0, none⟩ = some (.int .i64 0) := fun o => blk_cell (blk_up D1.out (up_alloc _ _)) 0 _ rfl
      have q1 : ∀ o, (w1.alloc o).cell? ⟨w.heap.size, 1, none⟩ = some (.slice none 0 0) := fun o => blk_cell (blk_up D1.out (up_alloc _ _)) 1 _ rfl
      have z0 : ∀ o, (w1.alloc o).frozen? ⟨w.heap.size, 0, none⟩ = false := fun o => blk_frozen (blk_up D1.out (up_alloc _ _)) 0
      have z1 : ∀ o, (w1.alloc o).frozen? ⟨w.heap.size, 1, none⟩ = false := fun o => blk_frozen (blk_up D1.out (up_alloc _ _)) 1
      clear B1 HG' O1
      go_wp2
      refine bodyPost_ret (results_bat3 rfl (.inl rfl) _ _ rfl (set2_blk D3.out _ _)) rfl ?_
      exact ⟨_, _, _, _, _, _, rfl, by unfold Hid; decide, U3.out.grown (set2_grown _ _ _ _) U3.out.size (fun k hk => by injection hk with hk; omega)⟩
  · have he1 : (e0 == 0) = false := by simp [he]
    clear hp
    go_enter Try.func44, Try.ntmps44
    go_wp2_with fail
    refine (HG'.out _).mono ?_
    rintro e w1 ⟨ad, cd, rfl, O1, B1⟩
    have D1 : Hid (w1.heap[w.heap.size]? = some (.cells #[.int .i64 0, .slice none 0 0] 26)) := blk_up (blk_new w _) B1.out
    have U1 : Hid (Below w.heap.size w w1) := up_trans (up_alloc w _) B1.out
    have D3 : Hid ((w1.alloc (.cells #[.int .i64 k0, .slice ad d0.length cd] 86)).heap[w.heap.size]? = some (.cells #[.int .i64 0, .slice none 0 0] 26)) := blk_up D1.out (up_alloc _ _)
    have U3 : Hid (Below w.heap.size w (w1.alloc (.cells #[.int .i64 k0, .slice ad d0.length cd] 86))) := up_al U1.out _
    have q0 : ∀ o, (w1.alloc o).cell? ⟨w.heap.size, 0, none⟩ = some (.int .i64 0) := fun o => blk_cell (blk_up D1.out (up_alloc _ _)) 0 _ rfl
    have q1 : ∀ o, (w1.alloc o).cell? ⟨w.heap.size, 1, none⟩ = some (.slice none 0 0) := fun o => blk_cell (blk_up D1.out (up_alloc _ _)) 1 _ rfl
    have z0 : ∀ o, (w1.alloc o).frozen? ⟨w.heap.size, 0, none⟩ = false := fun o => blk_frozen (blk_up D1.out (up_alloc _ _)) 0
    have z1 : ∀ o, (w1.alloc o).frozen? ⟨w.heap.size, 1, none⟩ = false := fun o => blk_frozen (blk_up D1.out (up_alloc _ _)) 1
    clear B1 HG' O1
    go_wp2
    refine bodyPost_ret (results_bat3 rfl (.inl rfl) _ _ rfl (set2_blk D3.out _ _)) rfl ?_
    exact ⟨_, _, _, _, _, _, rfl, he, U3.out.grown (set2_grown _ _ _ _) U3.out.size (fun k hk => by injection hk with hk; omega)⟩

set_option maxHeartbeats 1000000 in
theorem first_some (b : List Int) (v : Value) (w : World) (hv : Octs w v b) (s : Int) (cs : List Chg) (n : Nat) (hp : firstP 4 b = some (s, cs, n)) :
    Calls Try.prog 44 #[v] w fun e w' => ∃ a' c', e = .returned (.tuple #[.agg #[.int .i64 s, .slice a' cs.length c'], .int .i64 (n : Int), .int .i64 0]) ∧ Hid (OwnC w' w.heap.size (.slice a' cs.length c') cs) ∧ Hid (Below w.heap.size w w') := by
  obtain ⟨h6, hb, hz, he, hk, hd, _⟩ := firstP_some hv.1 hp
  obtain ⟨a, cap, rfl, _, _⟩ := hv.len
  have HV : Hid (∀ o, Octs (w.alloc o) (.slice a b.length cap) b) := fun o => hv.up (up_alloc w o)
  clear hv hp h6 hb
  have HG := fun o => fget_shape b _ _ (HV.out o)
  obtain ⟨k0, d0, z0, e0, hE⟩ : ∃ k0 d0 z0 e0, fget b = (k0, d0, z0, e0) := ⟨_, _, _, _, rfl⟩
  simp only [hE] at HG hz he hk hd
  subst he hk hz
  have HG' : Hid (∀ o, Calls Try.prog 55 #[.slice a b.length cap] (w.alloc o) fun e w' => ∃ ad cd, e = .returned (.tuple #[.agg #[.int .i64 1, .slice ad d0.length cd], .int .i64 (n : Int), .int .i64 0]) ∧ Hid (Octs w' (.slice ad d0.length cd) d0) ∧ Hid (Below (w.alloc o).heap.size (w.alloc o) w')) := HG
  clear HG hE HV
  go_enter Try.func44, Try.ntmps44
  go_wp2_with fail
  refine (HG'.out _).mono ?_
  rintro e w1 ⟨ad, cd, rfl, O1, B1⟩
  have D1 : Hid (w1.heap[w.heap.size]? = some (.cells #[.int .i64 0, .slice none 0 0] 26)) := blk_up (blk_new w _) B1.out
  have U1 : Hid (Below w.heap.size w w1) := up_trans (up_alloc w _) B1.out
  have S1 : Hid (w.heap.size < w1.heap.size) := blk_lt D1.out
  clear B1 HG'
  go_wp2_with fail
  refine (decode_ok d0 ad cd _ (O1.out.up (up_alloc _ _)) s cs hd).mono ?_
  rintro e w2 ⟨a', c', rfl, O2, B2⟩
  have D2 : Hid (w2.heap[w.heap.size]? = some (.cells #[.int .i64 0, .slice none 0 0] 26)) := blk_up (blk_up D1.out (up_alloc _ _)) B2.out
  have U2 : Hid (Below w.heap.size w w2) := up_trans (up_al U1.out _) B2.out
  have O2' : Hid (OwnC w2 (w.heap.size + 1) (.slice a' cs.length c') cs) := O2.out.mono (by have := S1.out; simp; omega)
  have D3 : Hid ((w2.alloc (.cells #[.int .i64 s, .slice a' cs.length c'] 26)).heap[w.heap.size]? = some (.cells #[.int .i64 0, .slice none 0 0] 26)) := blk_up D2.out (up_alloc _ _)
  have U3 : Hid (Below w.heap.size w (w2.alloc (.cells #[.int .i64 s, .slice a' cs.length c'] 26))) := up_al U2.out _
  have O3 : Hid (OwnC (w2.alloc (.cells #[.int .i64 s, .slice a' cs.length c'] 26)) (w.heap.size + 1) (.slice a' cs.length c') cs) := O2'.out.up (up_alloc _ _)
  have q0 : ∀ o, (w2.alloc o).cell? ⟨w.heap.size, 0, none⟩ = some (.int .i64 0) := fun o => blk_cell (blk_up D2.out (up_alloc _ _)) 0 _ rfl
  have q1 : ∀ o, (w2.alloc o).cell? ⟨w.heap.size, 1, none⟩ = some (.slice none 0 0) := fun o => blk_cell (blk_up D2.out (up_alloc _ _)) 1 _ rfl
  have z0 : ∀ o, (w2.alloc o).frozen? ⟨w.heap.size, 0, none⟩ = false := fun o => blk_frozen (blk_up D2.out (up_alloc _ _)) 0
  have z1 : ∀ o, (w2.alloc o).frozen? ⟨w.heap.size, 1, none⟩ = false := fun o => blk_frozen (blk_up D2.out (up_alloc _ _)) 1
  clear B2 hd O1 O2 O2'
  go_wp2
  refine bodyPost_ret (results_bat3 rfl (.inl rfl) _ _ rfl (set2_blk D3.out _ _)) rfl ?_
  exact ⟨_, _, rfl, OwnC.mono (O3.out.kept (set2_grown _ _ _ _) (fun g hg => by injection hg with hg; omega)) (by omega), U3.out.grown (set2_grown _ _ _ _) U3.out.size (fun k hk => by injection hk with hk; omega)⟩
end Go.Proofs.Ytgphkddcfcmaiaa
