/- The program's reader: its number, count, text, and the end. -/
import Derived.Test.YtbknoplfjfnbcaaDMath
import Derived.Test.YtbknoplfjfnbcaaAWhole
import Derived.Test.YtbknoplfjfnbcaaEArg
namespace Go.Proofs.Ytbknoplfjfnbcaa
open Go.RowKit
set_option linter.unusedVariables false
set_option linter.unusedSimpArgs false

theorem Octs.far {w w' : World} {v : Value} {l : List Int} {r : Option Nat} (h : Octs w v l) (hg : w.grownBy w' r) (hne : ∀ b, v.ownBlock = some b → l ≠ [] → some b ≠ r) : Octs w' v l :=
  h.moved fun b off x hn hv hc => hg.cell hc (hne b hv hn)


theorem Octs.lt {w : World} {v : Value} {l : List Int} (h : Octs w v l) (b : Nat) (hb : v.ownBlock = some b) (hn : l ≠ []) : b < w.heap.size := by
  obtain ⟨_, h⟩ := h
  rcases h with ⟨h0, _⟩ | ⟨_, b', off, cap, rfl, _, _, hj⟩
  · exact absurd h0 hn
  · simp [Value.ownBlock] at hb
    subst hb
    cases l with
    | nil => exact absurd rfl hn
    | cons x r => exact World.block_lt_of_cell? w ⟨b', off + 0, none⟩ (hj 0 x rfl)


theorem Octs.back {w : World} {b off cap n : Nat} {l : List Int} (h : Octs w (.slice (some ⟨b, off, none⟩) n cap) l) (hn : n = l.length) (j : Nat) (hj : j ≤ l.length) (hc : l.length ≤ cap) : Octs w (.slice (some ⟨b, off + j, none⟩) (n - j) (cap - j)) (l.drop j) := by
  obtain ⟨hx, h0⟩ := h
  refine ⟨fun x hx' => hx x (List.mem_of_mem_drop hx'), ?_⟩
  have hlen : (l.drop j).length = n - j := by rw [List.length_drop, hn]
  by_cases he : l.drop j = []
  · have : n - j = 0 := by rw [← hlen, he]; rfl
    rw [he, this]
    exact .inl ⟨rfl, _, _, rfl, fun h => by cases h⟩
  · rcases h0 with ⟨e, _⟩ | ⟨_, b', off', cap', hv, hc', hm, hcell⟩
    · subst e; simp at he
    · simp only [Value.slice.injEq, Option.some.injEq, Addr.mk.injEq] at hv
      obtain ⟨⟨rfl, rfl, _⟩, _, rfl⟩ := hv
      refine .inr ⟨he, b, off + j, cap - j, by rw [hlen], by rw [List.length_drop]; omega, by omega, fun i x hi => ?_⟩
      rw [List.getElem?_drop] at hi
      have := hcell (j + i) x hi
      rw [Nat.add_assoc]
      exact this


theorem Octs.form {w : World} {a : Option Addr} {c : Nat} {l : List Int} (h : Octs w (.slice a l.length c) l) : (a = none ∧ l = [] ∧ c = 0) ∨ (∃ x, a = some x ∧ l = []) ∨ (∃ b off, a = some ⟨b, off, none⟩ ∧ l ≠ [] ∧ l.length ≤ c ∧ c ≤ maxLen) := by
  obtain ⟨hx, hv⟩ := h
  rcases hv with ⟨rfl, a', cap, e, ha⟩ | ⟨hne, b, off, cap, e, h1, h2, h3⟩
  · simp at e
    obtain ⟨rfl, rfl⟩ := e
    cases a with
    | none => exact .inl ⟨rfl, rfl, ha rfl⟩
    | some x => exact .inr (.inl ⟨x, rfl, rfl⟩)
  · simp at e
    obtain ⟨rfl, rfl⟩ := e
    exact .inr (.inr ⟨b, off, rfl, hne, h1, h2⟩)



theorem octs_from {W : World} {a : Option Addr} {c : Nat} {l : List Int} (h : Octs W (.slice a l.length c) l) (p : Nat) (hp : p ≤ l.length) : Octs W (.slice (if c = p then a else a.map (fun x => x.add p)) (l.length - p) (c - p)) (l.drop p) := by
  rcases h.form with ⟨rfl, rfl, rfl⟩ | ⟨x, rfl, rfl⟩ | ⟨b, off, rfl, hne, hc, hm⟩
  · simp at hp
    subst hp
    exact ⟨by simp, .inl ⟨by simp, _, _, rfl, fun _ => rfl⟩⟩
  · simp at hp
    subst hp
    refine ⟨by simp, .inl ⟨by simp, _, _, rfl, fun e => ?_⟩⟩
    split at e <;> simp at e
  · by_cases hcp : c = p
    · rw [if_pos hcp, List.drop_eq_nil_of_le (by omega), show l.length - p = 0 by omega]
      exact ⟨by simp, .inl ⟨rfl, _, _, rfl, fun e => by cases e⟩⟩
    · rw [if_neg hcp]
      simp only [Option.map_some, Addr.add_lit]
      exact h.back rfl p hp hc


/-- The reader in block R: what is left, and the first error. -/
def RDI (BB : Nat) (W : World) (R : Nat) (s : List Int × Int) : Prop := BB ≤ R ∧ ∃ a n c, W.heap[R]? = some (.cells #[.slice a n c, .int .i64 s.2] 92) ∧ Octs W (.slice a n c) s.1 ∧ ∀ b, (Value.slice a n c).ownBlock = some b → s.1 ≠ [] → b < BB
theorem own_from {a : Option Addr} {n c n' c' p : Nat} {b : Nat} (h : (Value.slice (if c = p then a else a.map (fun x => x.add p)) n' c').ownBlock = some b) : (Value.slice a n c).ownBlock = some b := by
  cases a with
  | none => split at h <;> simp [Value.ownBlock] at h
  | some x =>
    split at h
    · exact h
    · simp only [Option.map_some, Value.ownBlock, Option.some.injEq] at h ⊢
      rw [← h]
      unfold Addr.add
      split <;> rfl
theorem rd_kept {BB : Nat} {W W' : World} {R : Nat} {s : List Int × Int} (h : RDI BB W R s) (hb : Below W.heap.size W W') : RDI BB W' R s := by
  obtain ⟨h0, a, n, c, h1, h2, h3⟩ := h
  exact ⟨h0, a, n, c, blk_up h1 hb, h2.up hb, h3⟩
theorem rd_far {BB : Nat} {W W' : World} {R N : Nat} {s : List Int × Int} (h : RDI BB W R s) (hg : W.grownBy W' (some N)) (hN : BB ≤ N) (hne : R ≠ N) : RDI BB W' R s := by
  obtain ⟨h0, a, n, c, h1, h2, h3⟩ := h
  exact ⟨h0, a, n, c, blk_grown h1 hg (by intro q; injection q with q; exact hne q), h2.far hg (fun b hb hn q => by injection q with q; have := h3 b hb hn; omega), h3⟩
theorem grown_two {W x y : World} {R N : Nat} (h : W.grownBy x (some R)) (k : x.grownBy y (some N)) (hN : W.heap.size ≤ N) : W.grownBy y (some R) :=
  ⟨k.os.trans h.os, k.tape.trans h.tape, k.output.trans h.output, Nat.le_trans h.size k.size, fun i hi hne => (k.block i (Nat.lt_of_lt_of_le hi h.size) (by intro q; injection q with q; omega)).trans (h.block i hi hne)⟩
theorem grown_drewN (W : World) (d : Nat) (r : Option Nat) : W.grownBy (W.drewN d) r := grown_up (up_drewN W d) r

set_option maxRecDepth 100000 in
theorem refuse_any (BB R : Nat) (s : List Int × Int) (c : Int) (W : World) (h : RDI BB W R s) :
    Calls Try.prog 60 #[.pointer (some ⟨R, 0, none⟩), .int .i64 c] W fun e w' => e = .returned (.tuple #[]) ∧ Hid (RDI BB w' R (refS c s)) ∧ Hid (W.grownBy w' (some R)) := by
  obtain ⟨l, y⟩ := s
  obtain ⟨hBR, a, n, cc, hb, ho, hlo⟩ := h
  simp only at hb ho
  have B : Hid (W.heap[R]? = some (.cells #[.slice a n cc, .int .i64 y] 92)) := hb
  have r0 := blk_cell hb 0 _ rfl
  have r1 := blk_cell hb 1 _ rfl
  have f0 := blk_frozen hb 0
  have f1 := blk_frozen hb 1
  clear hb ho
  by_cases hy : y = 0
  · subst hy
    have HR : Hid (RDI BB ((W.setCell ⟨R, 1, none⟩ (.int .i64 c)).setCell ⟨R, 0, none⟩ (.slice none 0 0)) R (refS c (l, 0))) := ⟨hBR, none, 0, 0, blk_set (blk_set B.out 1 (.int .i64 c)) 0 (.slice none 0 0), nil_octs _, fun b h => by simp [Value.ownBlock] at h⟩
    have HG : Hid (W.grownBy ((W.setCell ⟨R, 1, none⟩ (.int .i64 c)).setCell ⟨R, 0, none⟩ (.slice none 0 0)) (some R)) := grown_trans (grown_set W ⟨R, 1, none⟩ _) (grown_set _ ⟨R, 0, none⟩ _)
    go_enter Try.func60, Try.ntmps60
    go_wp2_with fail
    go_end0
    exact ⟨rfl, HR, HG⟩
  · have hy' : (y == 0) = false := by simp [hy]
    have HR : Hid (RDI BB (W.setCell ⟨R, 0, none⟩ (.slice none 0 0)) R (refS c (l, y))) := by
      refine ⟨hBR, none, 0, 0, ?_, nil_octs _, fun b h => by simp [Value.ownBlock] at h⟩
      have := blk_set B.out 0 (.slice none 0 0)
      unfold refS
      simp only [hy, if_false]
      exact this
    have HG : Hid (W.grownBy (W.setCell ⟨R, 0, none⟩ (.slice none 0 0)) (some R)) := grown_set W ⟨R, 0, none⟩ _
    go_enter Try.func60, Try.ntmps60
    go_wp2_with fail
    go_end0
    exact ⟨rfl, HR, HG⟩

theorem codeS_cases (l : List Int) (hx : ∀ x ∈ l, 0 ≤ x ∧ x ≤ 255) : (∃ v j c, getOf l = (v, j, c) ∧ c ≠ 0 ∧ codeS l = c) ∨ (∃ m j : Nat, getOf l = ((m : Int), (j : Int), 0) ∧ 1099511627776 < m ∧ codeS l = 1) ∨ (∃ m j : Nat, getOf l = ((m : Int), (j : Int), 0) ∧ m ≤ 1099511627776 ∧ 1 ≤ j ∧ j ≤ l.length ∧ codeS l = 0) := by
  rcases get_says l hx with hg | hg | ⟨m, j, hg, n0, n1, j1, jl, ho, j9⟩
  · have := getRet_inj hg
    exact .inl ⟨_, _, _, this, by decide, by unfold codeS; rw [this]; rfl⟩
  · have := getRet_inj hg
    exact .inl ⟨_, _, _, this, by decide, by unfold codeS; rw [this]; rfl⟩
  · have e := getRet_inj hg
    obtain ⟨k, rfl⟩ : ∃ k : Nat, m = (k : Int) := ⟨m.toNat, by omega⟩
    by_cases q : 1099511627776 < k
    · refine .inr (.inl ⟨k, j, e, q, ?_⟩)
      unfold codeS
      rw [e]
      simp only [if_true]
      rw [if_pos (by omega)]
    · refine .inr (.inr ⟨k, j, e, by omega, j1, by omega, ?_⟩)
      unfold codeS
      rw [e]
      simp only [if_true]
      rw [if_neg (by omega)]

set_option maxHeartbeats 2000000 in
set_option maxRecDepth 100000 in
theorem number_any (BB R : Nat) (s : List Int × Int) (W : World) (h : RDI BB W R s) :
    Calls Try.prog 57 #[.pointer (some ⟨R, 0, none⟩)] W fun e w' => e = .returned (.int .i64 (numS s).1) ∧ Hid (RDI BB w' R (numS s).2) ∧ Hid (W.grownBy w' (some R)) := by
  have HRF : Hid (∀ c W', RDI BB W' R s → Calls Try.prog 60 #[.pointer (some ⟨R, 0, none⟩), .int .i64 c] W' fun e w' => e = .returned (.tuple #[]) ∧ Hid (RDI BB w' R (refS c s)) ∧ Hid (W'.grownBy w' (some R))) := fun c W' h' => refuse_any BB R s c W' h'
  have HI : Hid (RDI BB W R s) := h
  obtain ⟨l, y⟩ := s
  obtain ⟨hBR, a, n, cc, hb, ho, hlo⟩ := h
  simp only at hb ho
  have B : Hid (W.heap[R]? = some (.cells #[.slice a n cc, .int .i64 y] 92)) := hb
  have O : Hid (Octs W (.slice a n cc) l) := ho
  have hx := ho.1
  have HGT := hid (get_any l _ W ho)
  have r0 := blk_cell hb 0 _ rfl
  have r1 := blk_cell hb 1 _ rfl
  have HS : Hid (∀ c, codeS l = c → c ≠ 0 → numS (l, y) = (0, refS c (l, y))) := by
    intro c h1 h2
    unfold numS
    simp only [h1, h2, if_false]
  clear hb ho
  rcases codeS_cases l hx with ⟨v, j, c, hg, hc, hcs⟩ | ⟨m, j, hg, hm, hcs⟩ | ⟨m, j, hg, hm, hj1, hj, hcs⟩
  · have hN := HS.out c hcs hc
    rw [hN]
    have hc' : (c == 0) = false := by simp [hc]
    unfold getRet at HGT
    rw [hg] at HGT
    clear hg hcs hN HS hx hc
    go_enter Try.func57, Try.ntmps57
    go_wp2_with fail
    refine HGT.out.mono ?_
    rintro e w1 ⟨rfl, d, rfl⟩
    have HI1 : Hid (RDI BB (W.drewN d) R (l, y)) := rd_kept HI.out (up_drewN _ _)
    have HG1 := hid (grown_drewN W d (some R))
    generalize W.drewN d = w1 at *
    go_wp2_with fail
    refine (HRF.out _ _ HI1.out).mono ?_
    rintro e w2 ⟨rfl, I2, G2⟩
    go_wp2_with fail
    go_ret
    exact ⟨rfl, I2, grown_trans HG1.out G2.out⟩
  · have hN := HS.out 1 hcs (by decide)
    rw [hN]
    have hm' : (1099511627776 : Int) < (m : Int) := by omega
    unfold getRet at HGT
    rw [hg] at HGT
    clear hg hcs hN HS hx
    go_enter Try.func57, Try.ntmps57
    go_wp2_with fail
    refine HGT.out.mono ?_
    rintro e w1 ⟨rfl, d, rfl⟩
    have HI1 : Hid (RDI BB (W.drewN d) R (l, y)) := rd_kept HI.out (up_drewN _ _)
    have HG1 := hid (grown_drewN W d (some R))
    generalize W.drewN d = w1 at *
    go_wp2_with fail
    refine (HRF.out _ _ HI1.out).mono ?_
    rintro e w2 ⟨rfl, I2, G2⟩
    go_wp2_with fail
    go_ret
    exact ⟨rfl, I2, grown_trans HG1.out G2.out⟩
  · have hN : numS (l, y) = ((m : Int), (l.drop j, y)) := by
      unfold numS
      simp only [hcs, if_true, hg, Int.toNat_natCast]
    rw [hN]
    have hm' : ¬ (1099511627776 : Int) < (m : Int) := by omega
    have hwm : IntKind.i64.wrap (m : Int) = (m : Int) := by rw [IntKind.wrap_i64]; omega
    unfold getRet at HGT
    rw [hg] at HGT
    clear hg hcs hN HS hx
    obtain ⟨hn, hl1, hl2⟩ : n = l.length ∧ l.length ≤ cc ∧ cc ≤ maxLen := by
      rcases O.out.2 with ⟨h0, _⟩ | ⟨_, b, off, cap, e, h1, h2, _⟩
      · rw [h0] at hj; simp at hj; omega
      · simp only [Value.slice.injEq] at e
        exact ⟨e.2.1, by omega, by omega⟩
    subst hn
    have hjl : (j : Int) ≤ (l.length : Int) := by omega
    have hjc : (l.length : Int) ≤ (cc : Int) := by omega
    have hl63 : (cc : Int) ≤ 9223372036854775807 := by unfold maxLen at hl2; omega
    have HOF := hid (octs_from O.out j hj)
    obtain ⟨A, hA⟩ : ∃ A, (if cc = j then a else a.map (fun x => x.add j)) = A := ⟨_, rfl⟩
    have HLA : Hid (∀ b, (Value.slice A (l.length - j) (cc - j)).ownBlock = some b → l.drop j ≠ [] → b < BB) := by
      intro b hb hn
      rw [← hA] at hb
      exact hlo b (own_from hb) (by intro e; simp only at e; rw [e] at hn; simp at hn)
    have HBR : Hid (BB ≤ R) := hBR
    rw [hA] at HOF
    clear hl1 hl2 hlo hBR
    go_enter Try.func57, Try.ntmps57
    go_wp2_with fail
    refine HGT.out.mono ?_
    rintro e w1 ⟨rfl, d, rfl⟩
    have B1 := hid (blk_up B.out (up_drewN W d))
    have O1 := hid (HOF.out.up (up_drewN W d))
    have HG1 := hid (grown_drewN W d (some R))
    clear r0 r1
    generalize W.drewN d = w1 at *
    have r0 := blk_cell B1.out 0 _ rfl
    have r1 := blk_cell B1.out 1 _ rfl
    have f0 := blk_frozen B1.out 0
    have HFI : Hid (RDI BB (w1.setCell ⟨R, 0, none⟩ (.slice A (l.length - j) (cc - j))) R (l.drop j, y)) := ⟨HBR.out, A, _, _, blk_set B1.out 0 _, O1.out.far (grown_set w1 ⟨R, 0, none⟩ _) (fun b hb hn q => by injection q with q; have := HLA.out b hb hn; have := HBR.out; simp only at q; omega), HLA.out⟩
    have HGI : Hid (W.grownBy (w1.setCell ⟨R, 0, none⟩ (.slice A (l.length - j) (cc - j))) (some R)) := grown_trans HG1.out (grown_set w1 ⟨R, 0, none⟩ _)
    go_wp2_with fail
    go_ret
    exact ⟨rfl, HFI, HGI⟩
end Go.Proofs.Ytbknoplfjfnbcaa
