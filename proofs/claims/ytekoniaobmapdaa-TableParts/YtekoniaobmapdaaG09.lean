/- The texts LBlk, LUp, XLeaf, XApp, VRef, VRefPut, XEnc, XEnc2, XEnc3, XOct, XRot, XFirst, in this order. -/
import Derived.Test.YtekoniaobmapdaaG08
import Derived.Deep.QuietTactic
import Derived.BigQuiet
import Derived.Maps.AppendAt
import Derived.Lib.AppendStr
import Derived.Test.YtekoniaobmapdaaG05
import Derived.BigRegion

/- Blocks. No Go function is walked here. -/
namespace Go.Proofs.Ytekoniaobmapdaa
open Go.RowKit
set_option linter.unusedVariables false

/-! ### blocks -/
theorem blk_cell {w : World} {B : Nat} {cs : Array Value} {t : TypeId} {fr : Nat × Nat} (h : w.heap[B]? = some (.cells cs t fr)) (i : Nat) (x : Value) (hi : cs[i]? = some x) : w.cell? ⟨B, i, none⟩ = some x := by
  simp only [World.cell?, h]
  simpa using hi
theorem blk_frozen {w : World} {B : Nat} {cs : Array Value} {t : TypeId} (h : w.heap[B]? = some (.cells cs t)) (i : Nat) : w.frozen? ⟨B, i, none⟩ = false := by
  simp only [World.frozen?, h]
  simp
theorem blk_set {w : World} {B : Nat} {cs : Array Value} {t : TypeId} {fr : Nat × Nat} (h : w.heap[B]? = some (.cells cs t fr)) (i : Nat) (u : Value) : (w.setCell ⟨B, i, none⟩ u).heap[B]? = some (.cells (cs.setIfInBounds i u) t fr) := by
  simp only [World.setCell, Array.getElem?_modify, h]
  simp
theorem blk_lt {w : World} {B : Nat} {o : Obj} (h : w.heap[B]? = some o) : B < w.heap.size := (Array.getElem?_eq_some_iff.1 h).1
theorem blk_up {w w' : World} {B : Nat} {o : Obj} (h : w.heap[B]? = some o) (hb : Below w.heap.size w w') : w'.heap[B]? = some o := (hb.block B (blk_lt h)).trans h
theorem blk_grown {w w' : World} {B : Nat} {o : Obj} {r : Option Nat} (h : w.heap[B]? = some o) (hg : w.grownBy w' r) (hne : some B ≠ r) : w'.heap[B]? = some o := (hg.block B (blk_lt h) hne).trans h
theorem blk_new (w : World) (o : Obj) : (w.alloc o).heap[w.heap.size]? = some o := by
  show (w.heap.push o)[w.heap.size]? = _
  simp
theorem grown_set (w : World) (a : Addr) (u : Value) : w.grownBy (w.setCell a u) (some a.block) :=
  ⟨rfl, rfl, rfl, by simp [World.setCell], fun k hk hne => Below.heap_setCell w a u k (fun e => hne (by rw [e]))⟩
theorem grown_up {w w' : World} (h : Below w.heap.size w w') (r : Option Nat) : w.grownBy w' r := ⟨h.os, h.tape, h.output, h.size, fun k hk _ => h.block k hk⟩
theorem grown_trans {a b c : World} {r : Option Nat} (h : a.grownBy b r) (k : b.grownBy c r) : a.grownBy c r :=
  ⟨k.os.trans h.os, k.tape.trans h.tape, k.output.trans h.output, Nat.le_trans h.size k.size, fun i hi hne => (k.block i (Nat.lt_of_lt_of_le hi h.size) hne).trans (h.block i hi hne)⟩
theorem below_grown {B : Nat} {w w' : World} {r : Option Nat} (hg : w.grownBy w' r) (hB : B ≤ w.heap.size) (hr : ∀ k, r = some k → B ≤ k) : Below B w w' := (Below.refl B w).grown hg hB hr

/-- Two slices do not lie in one block. -/
def Apart (u v : Value) : Prop := u.ownBlock = none ∨ u.ownBlock ≠ v.ownBlock
theorem Apart.symm {u v : Value} (h : Apart u v) : Apart v u := by
  unfold Apart at *
  cases hv : v.ownBlock with
  | none => exact .inl rfl
  | some b =>
    refine .inr ?_
    rcases h with h | h
    · rw [h]; simp
    · rw [hv] at h; exact fun e => h e.symm

theorem own_blk_ne {w : World} {base : Nat} {e t : TypeId} {sz : Nat} {v : Value} {n : Nat} {xs : List Value} {B : Nat} {cs : Array Value} {fr : Nat × Nat} (h : w.ownsRow base e sz v n xs) (hb : w.heap[B]? = some (.cells cs t fr)) (hne : e ≠ t) : v.ownBlock = none ∨ v.ownBlock ≠ some B := by
  rcases h.2 with ⟨rfl, _⟩ | ⟨g, cap, cur, rfl, _, hg, _⟩
  · exact .inl rfl
  · refine .inr ?_
    simp only [Value.ownBlock]
    intro q
    injection q with q
    subst q
    rw [hg] at hb
    simp at hb
    exact hne hb.2.1

theorem own_own_ne {w : World} {b1 b2 : Nat} {e1 e2 : TypeId} {s1 s2 : Nat} {v1 v2 : Value} {n1 n2 : Nat} {x1 x2 : List Value} (h1 : w.ownsRow b1 e1 s1 v1 n1 x1) (h2 : w.ownsRow b2 e2 s2 v2 n2 x2) (hne : e1 ≠ e2) : v1.ownBlock = none ∨ v1.ownBlock ≠ v2.ownBlock := by
  rcases h2.2 with ⟨rfl, _⟩ | ⟨g, cap, cur, rfl, _, hg, _⟩
  · rcases h1.2 with ⟨rfl, _⟩ | ⟨g, cap, cur, rfl, _⟩
    · exact .inl rfl
    · exact .inr (by simp [Value.ownBlock])
  · exact own_blk_ne h1 hg hne
end Go.Proofs.Ytekoniaobmapdaa

/- Worlds that only grow: statements whose order is drawn and whose callees only lay blocks. -/
namespace Go.Proofs.Ytekoniaobmapdaa
open Go.RowKit
set_option linter.unusedVariables false

/-- A world that is w but for draws and new blocks. -/
structure UpW (w : World) where
  val : World
  up : Below w.heap.size w val

theorem wp_region_up {id : Nat} {Q : Exit → Act → World → Prop} {a : Act} {w : World} {l : List Oper} (hm : Try.prog.follows .mixedOrders = true) (hB : Region.lexB .any l.toArray = true)
    (h : wpQuiet Try.prog l.toArray (fun w' => ∃ p : UpW w, w' = p.val) (fun a' => ∀ w', (∃ p : UpW w, w' = p.val) → Q .normal a' w') l a) : (Code.region id l.toArray true).wp Try.prog Q a w :=
  wp_region_quiet (C := fun w' => ∃ p : UpW w, w' = p.val) hm hB ⟨⟨w.drew, (Below.refl _ w).drew⟩, rfl⟩ (by simpa using h)

theorem calls_up {f : FuncId} {args : Array Value} {w : World} {p : UpW w} {v : Value}
    (h : Calls Try.prog f args p.val fun e w' => e = .returned v ∧ Below p.val.heap.size p.val w') : Calls Try.prog f args p.val fun e w'' => e = .returned v ∧ ∃ q : UpW w, w'' = q.val :=
  h.mono fun _ w' ⟨he, hb⟩ => ⟨he, ⟨w', up_trans p.up hb⟩, rfl⟩

theorem cell_up {w : World} {a : Addr} {v : Value} (h : w.cell? a = some v) (p : UpW w) : p.val.cell? a = some v :=
  (p.up.cell (World.block_lt_of_cell? w a h)).trans h
instance (w : World) : Inhabited (UpW w) := ⟨⟨w, Below.refl _ _⟩⟩
end Go.Proofs.Ytekoniaobmapdaa

/- The document's common, Ordered and Check of layer 9. -/
namespace Go.Proofs.Ytekoniaobmapdaa
open Go.RowKit SumPlain
set_option linter.unusedVariables false
set_option linter.unusedSimpArgs false

theorem str_size (l : List Int) : (strOfNums l).size = l.length := by simp [strOfNums, ByteArray.size]
theorem str_at (l : List Int) (hl : ∀ x ∈ l, 0 ≤ x ∧ x ≤ 255) (k : Nat) (h : k < (strOfNums l).size) : (((strOfNums l)[k]'h).toNat : Int) = l.getD k 0 := by
  have hk : k < l.length := by rw [str_size] at h; exact h
  have e : (strOfNums l)[k]'h = UInt8.ofNat (l[k]).toNat := by
    show (strOfNums l).data[k]'_ = _
    simp [strOfNums]
  have hb := hl l[k] (List.getElem_mem hk)
  rw [e]
  simp [List.getD, hk]
  omega

theorem drop_at (l : List Int) (k : Nat) (hk : k < l.length) : l.drop k = l.getD k 0 :: l.drop (k + 1) := by
  rw [List.drop_eq_getElem_cons hk]
  simp [List.getD, hk]
theorem comL_nil_left (r : List Int) : comL [] r = 0 := by unfold comL; rfl
theorem comL_nil_right (l : List Int) : comL l [] = 0 := by cases l <;> (unfold comL; rfl)

theorem World.cell?_alloc_of {w : World} {a : Addr} {x : Value} (h : w.cell? a = some x) (o : Obj) : (w.alloc o).cell? a = some x := by
  have := (up_alloc w o).cell (World.block_lt_of_cell? w a h)
  rw [this]
  exact h

/-- The version ahead. -/
def prevE (l : List En) (k : Nat) : Option En := if k = 0 then none else l[k - 1]?
theorem ordE_at (l : List En) (k : Nat) (x : En) (h : l[k]? = some x) : ordE (prevE l k) (l.drop k) = if mayE x then (if aheadE (prevE l k) x then ordE (prevE l (k + 1)) (l.drop (k + 1)) else 81) else 1 := by
  have hk := (List.getElem?_eq_some_iff.1 h).1
  rw [List.drop_eq_getElem_cons hk, (List.getElem?_eq_some_iff.1 h).2]
  rw [ordE]
  have e : prevE l (k + 1) = some x := by unfold prevE; rw [if_neg (by omega)]; exact h
  rw [e]

end Go.Proofs.Ytekoniaobmapdaa

/- append of octets and of texts onto octets of the call's own: where the answer lies. -/
namespace Go.Proofs.Ytekoniaobmapdaa
open Go.RowKit SumPlain
set_option linter.unusedVariables false
set_option linter.unusedSimpArgs false

theorem wpList_append_octs_at (w : World) {ops : Array Oper} {rest : List Oper} {o : Oper} {a : Act} {Q : Exit → Act → World → Prop} (hgd : o.guard = none) (s x : Operand)
    (ho : o.op = .call { callee := .builtin .append, args := #[s, x], argTypes := #[23, 23] }) (base : Nat) (v : Value) (l0 : List Int) (hs : a.eval s = v) (hown : OwnB w base v l0)
    (vx : Value) (lx : List Int) (hx : a.eval x = vx) (hO : Octs w vx lx) (hsz : l0.length + lx.length ≤ 140737488355328) (hbase : base ≤ w.heap.size)
    (h : ∀ v' w', OwnB w' base v' (l0 ++ lx) → w.grownBy w' v.ownBlock → (v'.ownBlock = v.ownBlock ∨ v'.ownBlock = some w.heap.size) → wpList Try.prog ops Q rest (a.put o.dst v') w') : wpList Try.prog ops Q (o :: rest) a w := by
  obtain ⟨i0, hi, hz0, hz1, hz2⟩ := info_some Try.info5
  obtain ⟨hoct, hO⟩ := hO
  have fin : ∀ v' w', w'.ownsRow base 5 1 v' (l0.length + lx.length) (l0.map (Value.int .u8) ++ lx.map (Value.int .u8)) → w.grownBy w' v.ownBlock → (v'.ownBlock = v.ownBlock ∨ v'.ownBlock = some w.heap.size) → wpList Try.prog ops Q rest (a.put o.dst v') w' := by
    intro v' w' h1 h2 h3
    refine h v' w' ?_ h2 h3
    unfold OwnB
    rw [List.length_append, List.map_append]
    exact h1
  rcases hO with ⟨rfl, ax, cap, rfl, hn⟩ | ⟨hne, b, off, cap, rfl, hcap, hm, hc⟩
  · cases ax with
    | none =>
      obtain rfl := hn rfl
      refine wpList_append_own_none hgd s x 23 ho base 5 i0 1 Try.underlying23 hi v l0.length (l0.map (Value.int .u8)) hs hown hx ?_
      refine fin v w ?_ (grown_refl w _) (.inl rfl)
      unfold OwnB at hown
      simpa using hown
    | some ad =>
      refine wpList_append_own_at w hgd s x 23 ho base 5 i0 (.int .u8 0) 1 1 Try.underlying23 hi hz0 hz1 hz2 rfl (by decide) v l0.length _ hs hown ad 0 cap [] hx rfl (fun j u hj => by simp at hj) (fun u hu => by cases hu) ?_ ?_ hbase ?_
      · simp only [List.length_nil] at hsz; unfold maxLen; omega
      · simp only [List.length_nil] at hsz; omega
      · intro v' w' h1 h2 _ h4
        exact fin v' w' (by simpa using h1) h2 h4
  · refine wpList_append_own_at w hgd s x 23 ho base 5 i0 (.int .u8 0) 1 1 Try.underlying23 hi hz0 hz1 hz2 rfl (by decide) v l0.length _ hs hown ⟨b, off, none⟩ lx.length cap (lx.map (Value.int .u8)) hx (by simp) ?_ (one_u8 lx) ?_ ?_ hbase ?_
    · intro j u hj
      rw [List.getElem?_map] at hj
      cases hx : lx[j]? with
      | none => rw [hx] at hj; cases hj
      | some y =>
        rw [hx] at hj
        simp at hj
        subst hj
        rw [Addr.add_lit]
        exact hc j y hx
    · unfold maxLen; omega
    · omega
    · intro v' w' h1 h2 _ h4
      exact fin v' w' h1 h2 h4

/-- Octets that are written out in the statement itself, near. -/
theorem wpList_append_lits_at (w0 : World) {ops : Array Oper} {rest : List Oper} {o : Oper} {a : Act} {Q : Exit → Act → World → Prop} (hgd : o.guard = none) (s x : Operand)
    (ho : o.op = .call { callee := .builtin .append, args := #[s, x], argTypes := #[23, 23] }) (base : Nat) (v : Value) (l0 : List Int) (hs : a.eval s = v) (hown : OwnB w0 base v l0)
    (lx : List Int) (n : Nat) (cs : Array Value) (hx : a.eval x = .slice (some ⟨w0.heap.size, 0, none⟩) n n) (hn : lx.length = n) (hcs : (lx.map (Value.int .u8)).toArray = cs) (hoct : ∀ y ∈ lx, 0 ≤ y ∧ y ≤ 255) (hsz : l0.length + lx.length ≤ 140737488355328) (hbase : base ≤ w0.heap.size)
    (h : ∀ v' w', OwnB w' base v' (l0 ++ lx) → w0.grownBy w' v.ownBlock → (v'.ownBlock = v.ownBlock ∨ ∃ g, v'.ownBlock = some g ∧ w0.heap.size ≤ g) → wpList Try.prog ops Q rest (a.put o.dst v') w') : wpList Try.prog ops Q (o :: rest) a (w0.alloc (.cells cs 5)) := by
  subst hn
  subst hcs
  refine wpList_append_octs_at _ hgd s x ho base v l0 hs (World.ownsRow.alloc hown _) _ lx hx (Octs.made w0 lx hoct (by unfold maxLen; omega)) hsz (by simp; omega) ?_
  intro v' w' h1 h2 h3
  refine h v' w' h1 (grown_trans (grown_up (up_alloc _ _) _) h2) ?_
  rcases h3 with h3 | h3
  · exact .inl h3
  · exact .inr ⟨_, h3, by simp⟩

theorem strCells_nums (s : ByteArray) : Lib.strCells s = (nums s).map (Value.int .u8) := by
  simp [Lib.strCells, nums, List.map_map, Function.comp_def]

theorem append_str_run (w : World) (ty : TypeId) (base : Nat) (v : Value) (l0 : List Int) (hown : OwnB w base v l0) (t : ByteArray) (hsz : l0.length + t.size ≤ 140737488355328) (hbase : base ≤ w.heap.size) :
    ∃ v' w', (Builtin.append_ #[23, 9] ty #[v, .string t]).run Try.prog w = .ok v' w' ∧ OwnB w' base v' (l0 ++ nums t) ∧ w.grownBy w' v.ownBlock ∧ (v'.ownBlock = v.ownBlock ∨ ∃ g, v'.ownBlock = some g ∧ w.heap.size ≤ g) := by
  obtain ⟨i0, hi, hz0, hz1, hz2⟩ := info_some Try.info5
  have key : ∀ base', base' ≤ w.heap.size → OwnB w base' v l0 → ∃ v' w', (Builtin.append_ #[23, 9] ty #[v, .string t]).run Try.prog w = .ok v' w' ∧ OwnB w' base' v' (l0 ++ nums t) ∧ w.grownBy w' v.ownBlock := by
    intro base' hb' ho'
    obtain ⟨v', w', h1, h2, h3, _⟩ := Lib.run_append_own_string (P := Try.prog) w base' 23 9 ty 5 i0 Try.underlying23 Try.underlying9 hi hz0 hz1 hz2 v l0.length _ ho' t (by unfold maxLen; omega) hsz hb'
    refine ⟨v', w', h1, ?_, h3⟩
    unfold OwnB
    rw [List.length_append, nums_length, List.map_append, ← strCells_nums]
    exact h2
  obtain ⟨v', w', h1, h2, h3⟩ := key base hbase hown
  refine ⟨v', w', h1, h2, h3, ?_⟩
  obtain ⟨hl, hcase⟩ := hown
  rcases hcase with ⟨rfl, h0⟩ | ⟨g, cap, cur, rfl, hg, hb, hn, hm, hcs, htk⟩
  · have hnil : l0 = [] := by cases l0 with | nil => rfl | cons _ _ => simp at h0
    subst hnil
    obtain ⟨v2, w2, k1, k2, _⟩ := key w.heap.size (Nat.le_refl _) (OwnB.nil _ _)
    rw [h1] at k1
    injection k1 with e1 e2
    subst e1 e2
    cases ho : v'.ownBlock with
    | none => exact .inl rfl
    | some g => exact .inr ⟨g, rfl, (k2.lt g ho).1⟩
  · by_cases hroom : l0.length + t.size ≤ cap
    · have hr := Lib.run_append_room_string (P := Try.prog) w 23 9 ty 5 i0 Try.underlying23 Try.underlying9 hi hz1 g l0.length cap cur hb t hroom (by rw [hcs]; omega)
      rw [h1] at hr
      injection hr with e1 e2
      subst e1
      exact .inl rfl
    · have holds : ∀ j u, (l0.map (Value.int .u8))[j]? = some u → w.cell? ((⟨g, 0, none⟩ : Addr).add j) = some u := World.ownsRow.cells (g := g) (base := base) (e := 5) (size := 1) (n := l0.length) ⟨hl, .inr ⟨g, cap, cur, rfl, hg, hb, hn, hm, hcs, htk⟩⟩ rfl
      have hr := Lib.run_append_grow_string (P := Try.prog) w 23 9 ty 5 i0 (.int .u8 0) Try.underlying23 Try.underlying9 hi hz0 ⟨g, 0, none⟩ l0.length cap (l0.map (Value.int .u8)) (by rw [List.length_map, hz1, Nat.mul_one]) holds t (by omega) (by omega) (by rw [hz2]; exact growslice_fits (by omega) (by omega))
      rw [h1] at hr
      injection hr with e1 e2
      subst e1
      exact .inr ⟨_, rfl, Nat.le_refl _⟩

theorem wpList_append_str_at (w : World) {ops : Array Oper} {rest : List Oper} {o : Oper} {a : Act} {Q : Exit → Act → World → Prop} (hgd : o.guard = none) (s x : Operand)
    (ho : o.op = .call { callee := .builtin .append, args := #[s, x], argTypes := #[23, 9] }) (base : Nat) (v : Value) (l0 : List Int) (hs : a.eval s = v) (hown : OwnB w base v l0)
    (t : ByteArray) (hx : a.eval x = .string t) (hsz : l0.length + t.size ≤ 140737488355328) (hbase : base ≤ w.heap.size)
    (h : ∀ v' w', OwnB w' base v' (l0 ++ nums t) → w.grownBy w' v.ownBlock → (v'.ownBlock = v.ownBlock ∨ ∃ g, v'.ownBlock = some g ∧ w.heap.size ≤ g) → wpList Try.prog ops Q rest (a.put o.dst v') w') : wpList Try.prog ops Q (o :: rest) a w := by
  refine wpList_plain hgd fun K hK => ?_
  obtain ⟨v', w', hr, h2, h3, h4⟩ := append_str_run w o.type base v l0 hown t hsz hbase
  unfold Oper.wp execOp
  simp only [ho, resolve, invoke, builtin, Sem.run_bind, Sem.run_pure, Result.andThen_ok, List.map_toArray, List.map_cons, List.map_nil, hs, hx, hr]
  exact hK _ _ (h v' w' h2 h3 h4)
end Go.Proofs.Ytekoniaobmapdaa

/- The document's answer for layer 1 (package ticklerref01): Zig, Zag, Size and ones return, for every number of their types, what the plain functions say. -/
namespace Go.Proofs.Ytekoniaobmapdaa
open Go.RowKit
set_option linter.unusedVariables false

theorem and_table : ∀ c : Fin 256, bits .and .u8 (c.val : Int) 1 = (c.val : Int) % 2 := by decide +kernel
theorem and_one (c : Int) (h0 : 0 ≤ c) (h1 : c ≤ 255) : bits .and .u8 c 1 = c % 2 := by
  have h := and_table ⟨c.toNat, by omega⟩
  have e : ((c.toNat : Nat) : Int) = c := by omega
  have h' : bits .and .u8 ((c.toNat : Nat) : Int) 1 = ((c.toNat : Nat) : Int) % 2 := h
  rw [e] at h'
  exact h'


end Go.Proofs.Ytekoniaobmapdaa

/- The document's Put (package ticklerref01) returns, for every number that fits uint64, a slice in new memory that holds the octets 'octets n', and changes nothing that was there. -/
namespace Go.Proofs.Ytekoniaobmapdaa
open Go.RowKit
set_option linter.unusedVariables false

theorem OwnB.made (w : World) (l : List Int) (hm : l.length ≤ maxLen) : OwnB (w.alloc (.cells (l.map (Value.int .u8)).toArray 5)) w.heap.size (.slice (some ⟨w.heap.size, 0, none⟩) l.length l.length) l := by
  refine ⟨by simp, .inr ⟨w.heap.size, l.length, (l.map (Value.int .u8)).toArray, rfl, Nat.le_refl _, ?_, Nat.le_refl _, hm, by simp, ?_⟩⟩
  · show (w.heap.push _)[w.heap.size]? = _
    simp
  · rw [Nat.mul_one]
    exact List.take_of_length_le (by simp)

theorem or_bit_table : ∀ i : Fin 8, ∀ x : Fin 256, x.val / 2 ^ (7 - i.val) % 2 = 0 → bits .or .u8 (x.val : Int) ((128 / 2 ^ i.val : Nat) : Int) = (x.val : Int) + ((128 / 2 ^ i.val : Nat) : Int) := by decide +kernel
theorem or_bit (i : Nat) (x m y : Int) (hi : i < 8) (h0 : 0 ≤ x) (h1 : x ≤ 255) (hm : ((128 / 2 ^ i : Nat) : Int) = m) (hb : x.toNat / 2 ^ (7 - i) % 2 = 0) (hy : x + m = y) : bits .or .u8 x m = y := by
  have h := or_bit_table ⟨i, hi⟩ ⟨x.toNat, by omega⟩ hb
  have e : ((x.toNat : Nat) : Int) = x := by omega
  have h' : bits .or .u8 ((x.toNat : Nat) : Int) ((128 / 2 ^ i : Nat) : Int) = ((x.toNat : Nat) : Int) + ((128 / 2 ^ i : Nat) : Int) := h
  rw [e, hm] at h'
  rw [h', hy]


end Go.Proofs.Ytekoniaobmapdaa

/- The document's Check and Encode of layer 9. -/
namespace Go.Proofs.Ytekoniaobmapdaa
open Go.RowKit SumPlain
set_option linter.unusedVariables false
set_option linter.unusedSimpArgs false

/-- The last key. -/
def lastK : List Int → List En → List Int
  | prev, [] => prev
  | _, x :: r => lastK (nums x.key) r
theorem bodyO_snoc : ∀ (l : List En) (i : Nat) (prev : List Int) (x : En), bodyO i prev (l ++ [x]) = bodyO i prev l ++ entO (shareN (i + l.length) (lastK prev l) x) x
  | [], i, prev, x => by simp [bodyO, lastK]
  | y :: r, i, prev, x => by
    simp only [List.cons_append, bodyO, lastK, List.length_cons]
    rw [bodyO_snoc r (i + 1) (nums y.key) x, List.append_assoc, show i + 1 + r.length = i + (r.length + 1) by omega]
theorem tailO_snoc : ∀ (l : List En) (i : Nat) (prev : List Int) (off : Nat) (x : En), tailO i prev off (l ++ [x]) = tailO i prev off l ++ (if (i + l.length) % 4 = 0 then [(((off + (bodyO i prev l).length) / 256 % 256 : Nat) : Int), (((off + (bodyO i prev l).length) % 256 : Nat) : Int)] else [])
  | [], i, prev, off, x => by simp [tailO, bodyO]
  | y :: r, i, prev, off, x => by
    simp only [List.cons_append, tailO, bodyO, List.length_cons]
    rw [tailO_snoc r (i + 1) (nums y.key) (off + (entO (shareN i prev y) y).length) x, List.append_assoc, show i + 1 + r.length = i + (r.length + 1) by omega, List.length_append]
    rw [show off + (entO (shareN i prev y) y).length + (bodyO (i + 1) (nums y.key) r).length = off + ((entO (shareN i prev y) y).length + (bodyO (i + 1) (nums y.key) r).length) by omega]
theorem lastK_take (l : List En) : ∀ (k : Nat) (y : En) (prev : List Int), l[k]? = some y → lastK prev (l.take (k + 1)) = nums y.key := by
  induction l with
  | nil => intro k y prev h; simp at h
  | cons z r ih =>
    intro k y prev h
    cases k with
    | zero => simp at h; subst h; simp [lastK]
    | succ k =>
      simp at h
      rw [List.take_succ_cons, lastK]
      exact ih k y _ h
theorem take_at {A : Type} (l : List A) (k : Nat) (x : A) (h : l[k]? = some x) : l.take (k + 1) = l.take k ++ [x] := by
  rw [List.take_add_one, h]
  rfl

theorem octets_len (n : Int) (h0 : 0 ≤ n) (h1 : n ≤ 18446744073709551615) : 1 ≤ (octets n).length ∧ (octets n).length ≤ 9 := by
  have := (octets_form n h0 h1).size
  have := size_bd n
  omega
theorem entO_len (n : Nat) (x : En) (h : mayE x = true) (hn : n ≤ (nums x.key).length) : (entO n x).length ≤ 645 := by
  obtain ⟨k1, k2, s1, s2, d1, d2, v1⟩ := mayE_le h
  have a1 := (octets_len (n : Int) (by omega) (by omega)).2
  have a2 := (octets_len (((nums x.key).length - n : Nat) : Int) (by omega) (by omega)).2
  have a3 := (octets_len x.seq (by omega) (by omega)).2
  have a4 := (octets_len ((nums x.val).length : Int) (by omega) (by omega)).2
  unfold entO
  simp only [List.length_append, List.length_cons, List.length_drop]
  omega
theorem bodyO_le : ∀ (l : List En) (i : Nat) (prev : List Int), (∀ x ∈ l, mayE x = true) → (bodyO i prev l).length ≤ 645 * l.length
  | [], _, _, _ => by simp [bodyO]
  | x :: r, i, prev, h => by
    unfold bodyO
    have h1 := bodyO_le r (i + 1) (nums x.key) (fun y hy => h y (by simp [hy]))
    have h2 := entO_len (shareN i prev x) x (h x (by simp)) (share_le i prev x).2.1
    rw [List.length_append, List.length_cons]
    omega

def OctL (l : List Int) : Prop := ∀ x ∈ l, 0 ≤ x ∧ x ≤ 255
theorem OctL.app {l r : List Int} (h : OctL l) (k : OctL r) : OctL (l ++ r) := fun x hx => by
  rcases List.mem_append.1 hx with q | q
  · exact h x q
  · exact k x q
theorem entO_oct (n : Nat) (x : En) (h : mayE x = true) (hn : n ≤ (nums x.key).length) : OctL (entO n x) := by
  obtain ⟨k1, k2, s1, s2, d1, d2, v1⟩ := mayE_le h
  unfold entO
  refine OctL.app (octets_form _ (by omega) (by omega)).octet (OctL.app (octets_form _ (by omega) (by omega)).octet (OctL.app (octets_form _ (by omega) (by omega)).octet (OctL.app (octets_form _ (by omega) (by omega)).octet ?_)))
  intro y hy
  rcases List.mem_cons.1 hy with rfl | hy
  · omega
  · exact OctL.app (fun z hz => nums_octet _ z (List.mem_of_mem_drop hz)) (nums_octet _) y hy
theorem bodyO_oct : ∀ (l : List En) (i : Nat) (prev : List Int), (∀ x ∈ l, mayE x = true) → OctL (bodyO i prev l)
  | [], _, _, _ => by intro y hy; simp [bodyO] at hy
  | x :: r, i, prev, h => by
    unfold bodyO
    exact OctL.app (entO_oct _ x (h x (by simp)) (share_le i prev x).2.1) (bodyO_oct r (i + 1) (nums x.key) (fun y hy => h y (by simp [hy])))
theorem tailO_oct : ∀ (l : List En) (i : Nat) (prev : List Int) (off : Nat), OctL (tailO i prev off l)
  | [], _, _, _ => by intro y hy; simp [tailO] at hy
  | x :: r, i, prev, off => by
    unfold tailO
    refine OctL.app ?_ (tailO_oct r _ _ _)
    split
    · intro y hy
      simp at hy
      omega
    · intro y hy; cases hy

theorem own_shape {w : World} {base : Nat} {v : Value} {l : List Int} (h : OwnB w base v l) : ∃ a n c, v = .slice a n c ∧ Hid (n = l.length) := by
  obtain ⟨a, c, e, _⟩ := own_len h
  exact ⟨a, _, c, e, rfl⟩

/-- Octets of two slices of the call's own, apart. -/
structure EnW (w : World) (vb vt : Value) (B T : List Int) (W : World) : Prop where
  ob : OwnB W w.heap.size vb B
  ot : OwnB W w.heap.size vt T
  ap : ∀ g, vb.ownBlock = some g → vt.ownBlock ≠ some g
  up : Below w.heap.size w W
theorem EnW.upw {w : World} {vb vt : Value} {B T : List Int} {W W' : World} (H : EnW w vb vt B T W) (h : Below W.heap.size W W') : EnW w vb vt B T W' := ⟨own_up H.ob h, own_up H.ot h, H.ap, up_trans H.up h⟩
theorem EnW.appB {w : World} {vb vt v' : Value} {B T B' : List Int} {W W' : World} (H : EnW w vb vt B T W) (ho : OwnB W' w.heap.size v' B') (hg : W.grownBy W' vb.ownBlock) (ha : v'.ownBlock = vb.ownBlock ∨ ∃ g, v'.ownBlock = some g ∧ W.heap.size ≤ g) : EnW w v' vt B' T W' := by
  refine ⟨ho, H.ot.kept hg ?_, ?_, H.up.grown hg H.up.size (fun j hj => (H.ob.lt j hj).1)⟩
  · cases h : vt.ownBlock with
    | none => exact .inl rfl
    | some g => exact .inr (fun e => H.ap g e.symm h)
  · intro g hg' ht
    rcases ha with ha | ⟨g2, ha, hge⟩
    · rw [ha] at hg'; exact H.ap g hg' ht
    · rw [ha] at hg'
      injection hg' with e
      have := (H.ot.lt g ht).2
      omega
theorem EnW.appT {w : World} {vb vt v' : Value} {B T T' : List Int} {W W' : World} (H : EnW w vb vt B T W) (ho : OwnB W' w.heap.size v' T') (hg : W.grownBy W' vt.ownBlock) (ha : v'.ownBlock = vt.ownBlock ∨ ∃ g, v'.ownBlock = some g ∧ W.heap.size ≤ g) : EnW w vb v' B T' W' := by
  refine ⟨H.ob.kept hg ?_, ho, ?_, H.up.grown hg H.up.size (fun j hj => (H.ot.lt j hj).1)⟩
  · cases h : vb.ownBlock with
    | none => exact .inl rfl
    | some g => exact .inr (fun e => H.ap g h e.symm)
  · intro g hg' ht
    rcases ha with ha | ⟨g2, ha, hge⟩
    · rw [ha] at ht; exact H.ap g hg' ht
    · rw [ha] at ht
      injection ht with e
      have := (H.ob.lt g hg').2
      omega
end Go.Proofs.Ytekoniaobmapdaa

/- The walk of the document's Encode of layer 9. -/
namespace Go.Proofs.Ytekoniaobmapdaa
open Go.RowKit SumPlain
set_option linter.unusedVariables false
set_option linter.unusedSimpArgs false

theorem nums_cut (s : ByteArray) (a : Nat) : nums (s.extract a (nums s).length) = (nums s).drop a := by
  have h := str_cut (nums s) a (nums s).length
  rw [str_nums] at h
  rw [h, nums_str _ (fun x hx => nums_octet s x (List.mem_of_mem_drop (List.mem_of_mem_take hx)))]
  rw [List.take_of_length_le (by rw [List.length_drop]; exact Nat.le_refl _)]

theorem Octs.put {w : World} {base : Nat} {v : Value} {n : Int} (h : OwnB w base v (octets n)) (h0 : 0 ≤ n) (h1 : n ≤ 18446744073709551615) : Octs w v (octets n) := Octs.own h (octets_form n h0 h1).octet

/-- What the numbers' slice holds. -/
def NumW (W : World) (M : Nat) (n0 n1 n2 n3 : Int) : Prop := W.heap[M]? = some (.cells #[.int .i64 n0, .int .i64 n1, .int .i64 n2, .int .i64 n3] 3)

end Go.Proofs.Ytekoniaobmapdaa

/- The document's Encode of layer 9, whatever it is given. -/
namespace Go.Proofs.Ytekoniaobmapdaa
open Go.RowKit SumPlain
set_option linter.unusedVariables false

end Go.Proofs.Ytekoniaobmapdaa

/- Octets cut; where they lie. -/
namespace Go.Proofs.Ytekoniaobmapdaa
open Go.RowKit SumPlain
set_option linter.unusedVariables false

theorem Octs.far {w w' : World} {v : Value} {l : List Int} {r : Option Nat} (h : Octs w v l) (hg : w.grownBy w' r) (hne : ∀ b, v.ownBlock = some b → l ≠ [] → some b ≠ r) : Octs w' v l :=
  h.moved fun b off x hn hv hc => hg.cell hc (hne b hv hn)


theorem Octs.lt {w : World} {v : Value} {l : List Int} (h : Octs w v l) (b : Nat) (hb : v.ownBlock = some b) (hn : l ≠ []) : b < w.heap.size := by
  obtain ⟨_, h⟩ := h
  rcases h with ⟨h0, _⟩ | ⟨_, b', off, cap, rfl, _, _, hj⟩
  · exact absurd h0 hn
  · simp [Value.ownBlock] at hb
    subst hb
    cases l with
    | nil => exact absurd rfl hn
    | cons x r => exact World.block_lt_of_cell? w ⟨b', off + 0, none⟩ (hj 0 x rfl)


theorem Octs.back {w : World} {b off cap n : Nat} {l : List Int} (h : Octs w (.slice (some ⟨b, off, none⟩) n cap) l) (hn : n = l.length) (j : Nat) (hj : j ≤ l.length) (hc : l.length ≤ cap) : Octs w (.slice (some ⟨b, off + j, none⟩) (n - j) (cap - j)) (l.drop j) := by
  obtain ⟨hx, h0⟩ := h
  refine ⟨fun x hx' => hx x (List.mem_of_mem_drop hx'), ?_⟩
  have hlen : (l.drop j).length = n - j := by rw [List.length_drop, hn]
  by_cases he : l.drop j = []
  · have : n - j = 0 := by rw [← hlen, he]; rfl
    rw [he, this]
    exact .inl ⟨rfl, _, _, rfl, fun h => by cases h⟩
  · rcases h0 with ⟨e, _⟩ | ⟨_, b', off', cap', hv, hc', hm, hcell⟩
    · subst e; simp at he
    · simp only [Value.slice.injEq, Option.some.injEq, Addr.mk.injEq] at hv
      obtain ⟨⟨rfl, rfl, _⟩, _, rfl⟩ := hv
      refine .inr ⟨he, b, off + j, cap - j, by rw [hlen], by rw [List.length_drop]; omega, by omega, fun i x hi => ?_⟩
      rw [List.getElem?_drop] at hi
      have := hcell (j + i) x hi
      rw [Nat.add_assoc]
      exact this


theorem Octs.form {w : World} {a : Option Addr} {c : Nat} {l : List Int} (h : Octs w (.slice a l.length c) l) : (a = none ∧ l = [] ∧ c = 0) ∨ (∃ x, a = some x ∧ l = []) ∨ (∃ b off, a = some ⟨b, off, none⟩ ∧ l ≠ [] ∧ l.length ≤ c ∧ c ≤ maxLen) := by
  obtain ⟨hx, hv⟩ := h
  rcases hv with ⟨rfl, a', cap, e, ha⟩ | ⟨hne, b, off, cap, e, h1, h2, h3⟩
  · simp at e
    obtain ⟨rfl, rfl⟩ := e
    cases a with
    | none => exact .inl ⟨rfl, rfl, ha rfl⟩
    | some x => exact .inr (.inl ⟨x, rfl, rfl⟩)
  · simp at e
    obtain ⟨rfl, rfl⟩ := e
    exact .inr (.inr ⟨b, off, rfl, hne, h1, h2⟩)


theorem wrap64_id (n : Int) (h0 : 0 ≤ n) (h1 : n ≤ 9223372036854775807) : IntKind.i64.wrap n = n := by
  simp [IntKind.wrap, IntKind.bits, IntKind.signed]; omega
theorem Octs.cut {w : World} {b off cap n : Nat} {l : List Int} (h : Octs w (.slice (some ⟨b, off, none⟩) n cap) l) (hn : n = l.length) (j : Nat) (hj : j ≤ l.length) : Octs w (.slice (some ⟨b, off, none⟩) j cap) (l.take j) := by
  have := h.front (p := l.take j) (q := l.drop j) (List.take_append_drop j l).symm hn
  rw [List.length_take, Nat.min_eq_left hj] at this
  exact this
end Go.Proofs.Ytekoniaobmapdaa

/- A block with one octet that is another one. -/
namespace Go.Proofs.Ytekoniaobmapdaa
open Go.RowKit SumPlain
set_option linter.unusedVariables false

theorem split_at (G : List Int) (p : Nat) (hp : p < G.length) : G = G.take p ++ ([G.getD p 0] ++ G.drop (p + 1)) := by
  have e : G.drop p = G.getD p 0 :: G.drop (p + 1) := by
    rw [List.drop_eq_getElem_cons hp]
    simp [List.getD, hp]
  have := List.take_append_drop p G
  rw [e] at this
  exact this.symm
theorem set_at (G : List Int) (p : Nat) (hp : p < G.length) (v : Int) : G.set p v = G.take p ++ ([v] ++ G.drop (p + 1)) := by
  rw [List.set_eq_take_append_cons_drop, if_pos hp]
  rfl
theorem octS_zero (z : BitVec 8) (h : z ≠ 0#8) : octS 0#32 z ≠ 0#32 := by
  intro e
  unfold octS at e
  have h1 := stpN_inj 8 _ e
  have h2 : top z = 0#32 := by simpa using h1
  apply h
  apply BitVec.eq_of_toNat_eq
  have h3 := congrArg BitVec.toNat h2
  unfold top at h3
  simp at h3
  have := z.isLt
  simp
  omega
theorem rot_bare (L : List Int) (hL : ∀ x ∈ guardOf L, 0 ≤ x ∧ x ≤ 255) (p : Nat) (hp : p < (guardOf L).length) (z : Int) (z1 : 1 ≤ z) (z2 : z ≤ 255) :
    bareOf ((guardOf L).set p (bits .xor .u8 ((guardOf L).getD p 0) z)) = ([], 21) := by
  have h0 : ext ones (guardOf L) = 0#32 := ext_guard ones L
  have hlen := guard_len L
  have hy := hL ((guardOf L).getD p 0) (by simp [List.getD, hp])
  generalize guardOf L = G at *
  refine bare_not _ (by rw [List.length_set]; omega) ?_
  rw [set_at G p hp]
  rw [split_at G p hp] at h0
  generalize G.getD p 0 = y at *
  generalize G.take p = A at *
  generalize G.drop (p + 1) = R at *
  rw [ext_app, ext_app] at h0 ⊢
  have s1 : ∀ (c : BitVec 32) (x : Int), ext c [x] = octS c (BitVec.ofInt 8 x) := fun c x => by
    have := ext_snoc c [] x
    rw [List.nil_append, ext_nil] at this
    exact this
  rw [s1] at h0 ⊢
  generalize ext ones A = c at *
  rw [(xor8 y z hy.1 hy.2 (by omega) z2).1]
  have e1 : octS c (BitVec.ofInt 8 y ^^^ BitVec.ofInt 8 z) = octS c (BitVec.ofInt 8 y) ^^^ octS 0#32 (BitVec.ofInt 8 z) := by
    have := oct_xor c 0#32 (BitVec.ofInt 8 y) (BitVec.ofInt 8 z)
    simpa using this
  rw [e1]
  generalize octS c (BitVec.ofInt 8 y) = P at *
  have hD : octS 0#32 (BitVec.ofInt 8 z) ≠ 0#32 := octS_zero _ (fun e => by
    have := ob_inj z 0 (by omega) z2 (by omega) (by omega) (by rw [e]; rfl)
    omega)
  generalize octS 0#32 (BitVec.ofInt 8 z) = D at *
  have e2 : ext (P ^^^ D) R = ext P R ^^^ stpN (8 * (ob R).length) D := ext_behind (ob R) P D
  rw [e2, h0]
  intro e
  apply hD
  apply stpN_inj (8 * (ob R).length)
  simpa using e
/-- The page's promise of one octet. -/
theorem rot_dec (l : List En) (h : chkB l = 0) (hL : ∀ x ∈ (encB l).1, 0 ≤ x ∧ x ≤ 255) (p : Nat) (hp : p < (encB l).1.length) (z : Int) (z1 : 1 ≤ z) (z2 : z ≤ 255) :
    decB ((encB l).1.set p (bits .xor .u8 ((encB l).1.getD p 0) z)) = ([], 21) := by
  have e : encB l = (guardOf (blockO l), 0) := by unfold encB; rw [if_pos h]
  rw [e] at hL hp ⊢
  simp only at hL hp ⊢
  unfold decB
  rw [rot_bare _ hL p hp z z1 z2]
  simp
end Go.Proofs.Ytekoniaobmapdaa

/- The document's First. -/
namespace Go.Proofs.Ytekoniaobmapdaa
open Go.RowKit
set_option linter.unusedVariables false
set_option linter.unusedSimpArgs false

theorem results_ent {fn : Func} {q r : Nat} (h : fn.results = #[.cell q 39, .tmp r]) (tmps : Array Value) (w : World) {N : Nat} {a b c d : Value} (ht : tmps.getD q undef = .pointer (some ⟨N, 0, none⟩))
    (hc : w.heap[N]? = some (.cells #[a, b, c, d] 39)) : (results fn tmps).run Try.prog w = .ok (.tuple #[.agg #[a, b, c, d], tmps.getD r undef]) w := by
  have c0 := blk_cell hc 0 a rfl
  have c1 := blk_cell hc 1 b rfl
  have c2 := blk_cell hc 2 c rfl
  have c3 := blk_cell hc 3 d rfl
  have ht' : tmps[q]?.getD undef = .pointer (some ⟨N, 0, none⟩) := by simpa using ht
  simp only [results, h]
  simp [ht', go_sem, c0, c1, c2, c3]
theorem set4_blk {w : World} {N : Nat} {t : TypeId} {x0 x1 x2 x3 : Value} (h : w.heap[N]? = some (.cells #[x0, x1, x2, x3] t)) (a b c d : Value) : ((((w.setCell ⟨N, 0, none⟩ a).setCell ⟨N, 1, none⟩ b).setCell ⟨N, 2, none⟩ c).setCell ⟨N, 3, none⟩ d).heap[N]? = some (.cells #[a, b, c, d] t) := by
  have := blk_set (blk_set (blk_set (blk_set h 0 a) 1 b) 2 c) 3 d
  simpa only [List.setIfInBounds_toArray, List.set_cons_zero, List.set_cons_succ] using this
theorem set4_grown (w : World) (N : Nat) (a b c d : Value) : w.grownBy ((((w.setCell ⟨N, 0, none⟩ a).setCell ⟨N, 1, none⟩ b).setCell ⟨N, 2, none⟩ c).setCell ⟨N, 3, none⟩ d) (some N) :=
  grown_trans (grown_trans (grown_trans (grown_set w ⟨N, 0, none⟩ a) (grown_set _ ⟨N, 1, none⟩ b)) (grown_set _ ⟨N, 2, none⟩ c)) (grown_set _ ⟨N, 3, none⟩ d)

instance : Inhabited En := ⟨⟨⟨#[]⟩, 0, 0, ⟨#[]⟩⟩⟩
def firstF (l : List En) (key : ByteArray) (seq : Int) : Option En := l.find? fun e => (e.key.toList == key.toList) && decide (e.seq ≤ seq)
/-- What First answers. -/
def firstV (l : List En) (key : ByteArray) (seq : Int) : En × Bool := match firstF l key seq with | none => (default, false) | some y => (y, true)
theorem firstF_drop {l : List En} {key : ByteArray} {seq : Int} {i : Nat} {y : En} (h : l[i]? = some y) : firstF (l.drop i) key seq = if ((y.key.toList == key.toList) && decide (y.seq ≤ seq)) = true then some y else firstF (l.drop (i + 1)) key seq := by
  have hi := (List.getElem?_eq_some_iff.1 h).1
  rw [List.drop_eq_getElem_cons hi, (List.getElem?_eq_some_iff.1 h).2]
  unfold firstF
  rw [List.find?_cons]
  cases q : ((y.key.toList == key.toList) && decide (y.seq ≤ seq)) <;> simp
end Go.Proofs.Ytekoniaobmapdaa
