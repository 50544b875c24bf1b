/- Octets read and written. -/
import Derived.Test.YtpjmieiajhhbaaaDoorGW
import Derived.Test.YtpjmieiajhhbaaaDoorGV
import Derived.Test.YtpjmieiajhhbaaaDoorGA
import Derived.Deep.RegionHeld3
import Derived.Lib.AppendStr

/- Octets cut; where they lie; a copy. -/
namespace Go.Proofs.YtpjmieiajhhbaaaDoor
open Go.RowKit
set_option linter.unusedVariables false

theorem Octs.front {w : World} {b off cap n : Nat} {l p q : List Int} (h : Octs w (.slice (some ⟨b, off, none⟩) n cap) l) (hl : l = p ++ q) (hn : n = l.length) : Octs w (.slice (some ⟨b, off, none⟩) p.length cap) p := by
  subst hl
  subst hn
  obtain ⟨hx, h⟩ := h
  refine ⟨fun x hp => hx x (List.mem_append_left _ hp), ?_⟩
  by_cases c : p = []
  · subst c
    exact .inl ⟨rfl, _, _, rfl, fun h => by cases h⟩
  · rcases h with ⟨h0, _⟩ | ⟨hn, b', off', cap', e, hc, hm, hj⟩
    · simp at h0; exact absurd h0.1 c
    · simp at e
      obtain ⟨⟨rfl, rfl⟩, rfl⟩ := e
      rw [List.length_append] at hc
      refine .inr ⟨c, b, off, cap, rfl, by omega, hm, fun j x hjx => hj j x ?_⟩
      rw [List.getElem?_append_left (List.getElem?_eq_some_iff.1 hjx).1]
      exact hjx
theorem Octs.far {w w' : World} {v : Value} {l : List Int} {r : Option Nat} (h : Octs w v l) (hg : w.grownBy w' r) (hne : ∀ b, v.ownBlock = some b → l ≠ [] → some b ≠ r) : Octs w' v l :=
  h.moved fun b off x hn hv hc => hg.cell hc (hne b hv hn)
theorem Octs.lt {w : World} {v : Value} {l : List Int} (h : Octs w v l) (b : Nat) (hb : v.ownBlock = some b) (hn : l ≠ []) : b < w.heap.size := by
  obtain ⟨_, h⟩ := h
  rcases h with ⟨h0, _⟩ | ⟨_, b', off, cap, rfl, _, _, hj⟩
  · exact absurd h0 hn
  · simp [Value.ownBlock] at hb
    subst hb
    cases l with
    | nil => exact absurd rfl hn
    | cons x r => exact World.block_lt_of_cell? w ⟨b', off + 0, none⟩ (hj 0 x rfl)
theorem Octs.back {w : World} {b off cap n : Nat} {l : List Int} (h : Octs w (.slice (some ⟨b, off, none⟩) n cap) l) (hn : n = l.length) (j : Nat) (hj : j ≤ l.length) (hc : l.length ≤ cap) : Octs w (.slice (some ⟨b, off + j, none⟩) (n - j) (cap - j)) (l.drop j) := by
  obtain ⟨hx, h0⟩ := h
  refine ⟨fun x hx' => hx x (List.mem_of_mem_drop hx'), ?_⟩
  have hlen : (l.drop j).length = n - j := by rw [List.length_drop, hn]
  by_cases he : l.drop j = []
  · have : n - j = 0 := by rw [← hlen, he]; rfl
    rw [he, this]
    exact .inl ⟨rfl, _, _, rfl, fun h => by cases h⟩
  · rcases h0 with ⟨e, _⟩ | ⟨_, b', off', cap', hv, hc', hm, hcell⟩
    · subst e; simp at he
    · simp only [Value.slice.injEq, Option.some.injEq, Addr.mk.injEq] at hv
      obtain ⟨⟨rfl, rfl, _⟩, _, rfl⟩ := hv
      refine .inr ⟨he, b, off + j, cap - j, by rw [hlen], by rw [List.length_drop]; omega, by omega, fun i x hi => ?_⟩
      rw [List.getElem?_drop] at hi
      have := hcell (j + i) x hi
      rw [Nat.add_assoc]
      exact this
theorem Octs.form {w : World} {a : Option Addr} {c : Nat} {l : List Int} (h : Octs w (.slice a l.length c) l) : (a = none ∧ l = [] ∧ c = 0) ∨ (∃ x, a = some x ∧ l = []) ∨ (∃ b off, a = some ⟨b, off, none⟩ ∧ l ≠ [] ∧ l.length ≤ c ∧ c ≤ maxLen) := by
  obtain ⟨hx, hv⟩ := h
  rcases hv with ⟨rfl, a', cap, e, ha⟩ | ⟨hne, b, off, cap, e, h1, h2, h3⟩
  · simp at e
    obtain ⟨rfl, rfl⟩ := e
    cases a with
    | none => exact .inl ⟨rfl, rfl, ha rfl⟩
    | some x => exact .inr (.inl ⟨x, rfl, rfl⟩)
  · simp at e
    obtain ⟨rfl, rfl⟩ := e
    exact .inr (.inr ⟨b, off, rfl, hne, h1, h2⟩)
theorem Octs.cut {w : World} {b off cap n : Nat} {l : List Int} (h : Octs w (.slice (some ⟨b, off, none⟩) n cap) l) (hn : n = l.length) (j : Nat) (hj : j ≤ l.length) : Octs w (.slice (some ⟨b, off, none⟩) j cap) (l.take j) := by
  have := h.front (p := l.take j) (q := l.drop j) (List.take_append_drop j l).symm hn
  rw [List.length_take, Nat.min_eq_left hj] at this
  exact this
theorem OwnB.mono {w : World} {base base' : Nat} {v : Value} {l : List Int} (h : OwnB w base v l) (hb : base' ≤ base) : OwnB w base' v l := by
  obtain ⟨h1, h2⟩ := h
  refine ⟨h1, ?_⟩
  rcases h2 with h0 | ⟨g, cap, cur, rfl, hg, r⟩
  · exact .inl h0
  · exact .inr ⟨g, cap, cur, rfl, Nat.le_trans hb hg, r⟩
theorem getRet_inj {l : List Int} {a b c : Int} (h : getRet l = .tuple #[.int .u64 a, .int .i64 b, .int .i64 c]) : getOf l = (a, b, c) := by
  unfold getRet at h
  simp at h
  obtain ⟨h1, h2, h3⟩ := h
  rw [← h1, ← h2, ← h3]
theorem getOf_octets (n : Int) (h0 : 0 ≤ n) (h1 : n ≤ 18446744073709551615) (r : List Int) : getOf (octets n ++ r) = (n, ((octets n).length : Int), 0) := by
  rw [getRet_inj (getOf_back n h0 h1 r), ← (octets_form n h0 h1).size]
theorem own_len {w : World} {base : Nat} {v : Value} {l : List Int} (h : OwnB w base v l) : ∃ a cap, v = .slice a l.length cap ∧ l.length ≤ cap := by
  obtain ⟨_, h⟩ := h
  rcases h with ⟨rfl, h0⟩ | ⟨g, cap, cur, rfl, _, _, hn, _⟩
  · exact ⟨none, 0, by rw [h0], by omega⟩
  · exact ⟨_, cap, rfl, hn⟩
end Go.Proofs.YtpjmieiajhhbaaaDoor

/- The document's reader of layer 6: numbers. -/
namespace Go.Proofs.YtpjmieiajhhbaaaDoor
open Go.RowKit
set_option linter.unusedVariables false

/-- The document's reader at N: it stands at k in the octets X, its error is y. -/
structure RQ (w0 w : World) (N : Nat) (X : List Int) (a : Option Addr) (c k : Nat) (y : Int) : Prop where
  up : Below w0.heap.size w0 w
  n : w0.heap.size ≤ N
  blk : w.heap[N]? = some (.cells #[.slice a X.length c, .int .i64 (k : Int), .int .i64 y] 77)
  octs : Octs w0 (.slice a X.length c) X
  le : k ≤ X.length
  xl : X.length ≤ 140737488355328

theorem RQ.upw {w0 w w' : World} {N : Nat} {X : List Int} {a : Option Addr} {c k : Nat} {y : Int} (h : RQ w0 w N X a c k y) (hb : Below w.heap.size w w') : RQ w0 w' N X a c k y :=
  ⟨up_trans h.up hb, h.n, blk_up h.blk hb, h.octs, h.le, h.xl⟩
theorem RQ.far {w0 w w' : World} {N : Nat} {X : List Int} {a : Option Addr} {c k : Nat} {y : Int} {r : Option Nat} (h : RQ w0 w N X a c k y) (hg : w.grownBy w' r) (hr : ∀ g, r = some g → w0.heap.size ≤ g ∧ g ≠ N) : RQ w0 w' N X a c k y :=
  ⟨h.up.grown hg h.up.size (fun g e => (hr g e).1), h.n, blk_grown h.blk hg (fun e => (hr N e.symm).2 rfl), h.octs, h.le, h.xl⟩
theorem RQ.setErr {w0 w : World} {N : Nat} {X : List Int} {a : Option Addr} {c k : Nat} {y : Int} (h : RQ w0 w N X a c k y) (z : Int) : RQ w0 (w.setCell ⟨N, 2, none⟩ (.int .i64 z)) N X a c k z :=
  ⟨h.up.grown (grown_set _ _ _) h.up.size (fun g e => by have := h.n; simp at e; omega), h.n, blk_set h.blk 2 _, h.octs, h.le, h.xl⟩

/-- A number of at most so much. -/
def numG (most code : Int) (l : List Int) : Except Int (Int × List Int) :=
  if (getOf l).2.2 = 0 then (if most < (getOf l).1 then .error code else .ok ((getOf l).1, l.drop (getOf l).2.1.toNat)) else .error (getOf l).2.2
theorem numG_err {most code : Int} (hc : code ≠ 0) {l : List Int} {y : Int} (h : numG most code l = .error y) : y ≠ 0 := by
  unfold numG at h
  split at h
  · split at h
    · injection h with h; subst h; exact hc
    · cases h
  · rename_i h0
    injection h with h
    subst h
    exact h0

end Go.Proofs.YtpjmieiajhhbaaaDoor

/- The document's reader of layer 6: octets taken, texts. -/
namespace Go.Proofs.YtpjmieiajhhbaaaDoor
open Go.RowKit
set_option linter.unusedVariables false

end Go.Proofs.YtpjmieiajhhbaaaDoor

/- Octets appended to octets of one's own: what it asks and leaves. -/
namespace Go.Proofs.YtpjmieiajhhbaaaDoor
open Go.RowKit
set_option linter.unusedVariables false
set_option linter.unusedSimpArgs false

theorem octets_len (n : Int) (h0 : 0 ≤ n) (h1 : n ≤ 18446744073709551615) : 1 ≤ (octets n).length ∧ (octets n).length ≤ 9 := by
  have := (octets_form n h0 h1).size
  have := size_bd n
  omega
theorem own_shape {w : World} {base : Nat} {v : Value} {l : List Int} (h : OwnB w base v l) : ∃ a n c, v = .slice a n c ∧ Hid (n = l.length) := by
  obtain ⟨a, c, e, _⟩ := own_len h
  exact ⟨a, _, c, e, rfl⟩
theorem octets_octet (n : Int) (h0 : 0 ≤ n) (h1 : n ≤ 18446744073709551615) : ∀ y ∈ octets n, 0 ≤ y ∧ y ≤ 255 := fun y hy => (octets_form n h0 h1).octet y hy
theorem strCells_nums (s : ByteArray) : Lib.strCells s = (nums s).map (Value.int .u8) := by
  simp [Lib.strCells, nums, List.map_map, Function.comp_def]
theorem append_str_run (w : World) (ty : TypeId) (base : Nat) (v : Value) (l0 : List Int) (hown : OwnB w base v l0) (t : ByteArray) (hsz : l0.length + t.size ≤ 140737488355328) (hbase : base ≤ w.heap.size) :
    ∃ v' w', (Builtin.append_ #[64, 9] ty #[v, .string t]).run Tryd.prog w = .ok v' w' ∧ OwnB w' base v' (l0 ++ nums t) ∧ w.grownBy w' v.ownBlock := by
  obtain ⟨i0, hi, hz0, hz1, hz2⟩ := info_some Tryd.info5
  obtain ⟨v', w', h1, h2, h3, _⟩ := Lib.run_append_own_string (P := Tryd.prog) w base 64 9 ty 5 i0 Tryd.underlying64 Tryd.underlying9 hi hz0 hz1 hz2 v l0.length _ hown t (by unfold maxLen; omega) hsz hbase
  refine ⟨v', w', h1, ?_, h3⟩
  unfold OwnB
  rw [List.length_append, nums_length, List.map_append, ← strCells_nums]
  exact h2
theorem wpList_append_str (w : World) {ops : Array Oper} {rest : List Oper} {o : Oper} {a : Act} {Q : Exit → Act → World → Prop} (hgd : o.guard = none) (s x : Operand)
    (ho : o.op = .call { callee := .builtin .append, args := #[s, x], argTypes := #[64, 9] }) (base : Nat) (v : Value) (l0 : List Int) (hs : a.eval s = v) (hown : OwnB w base v l0)
    (t : ByteArray) (hx : a.eval x = .string t) (hsz : l0.length + t.size ≤ 140737488355328) (hbase : base ≤ w.heap.size)
    (h : ∀ v' w', OwnB w' base v' (l0 ++ nums t) → w.grownBy w' v.ownBlock → wpList Tryd.prog ops Q rest (a.put o.dst v') w') : wpList Tryd.prog ops Q (o :: rest) a w := by
  refine wpList_plain hgd fun K hK => ?_
  obtain ⟨v', w', hr, h2, h3⟩ := append_str_run w o.type base v l0 hown t hsz hbase
  unfold Oper.wp execOp
  simp only [ho, resolve, invoke, builtin, Sem.run_bind, Sem.run_pure, Result.andThen_ok, List.map_toArray, List.map_cons, List.map_nil, hs, hx, hr]
  exact hK _ _ (h v' w' h2 h3)
end Go.Proofs.YtpjmieiajhhbaaaDoor
