/- Texts of layers 1 to 13, in this order. -/
import Derived.Test.YthiegmhplnbdlaaGreatG08
import Derived.Maps.AppendAt
import Derived.Lib.AppendStr
import Derived.Test.YthiegmhplnbdlaaGreatG04
import Derived.BigRegion
import Derived.Test.YthiegmhplnbdlaaGreatG07
import Derived.Test.YthiegmhplnbdlaaGreatG06

namespace Go.Proofs.YthiegmhplnbdlaaGreat
open Go.RowKit SumPlain
set_option linter.unusedVariables false
set_option linter.unusedSimpArgs false
theorem wpList_append_octs_at (w : World) {ops : Array Oper} {rest : List Oper} {o : Oper} {a : Act} {Q : Exit → Act → World → Prop} (hgd : o.guard = none) (s x : Operand)
    (ho : o.op = .call { callee := .builtin .append, args := #[s, x], argTypes := #[25, 25] }) (base : Nat) (v : Value) (l0 : List Int) (hs : a.eval s = v) (hown : OwnB w base v l0)
    (vx : Value) (lx : List Int) (hx : a.eval x = vx) (hO : Octs w vx lx) (hsz : l0.length + lx.length ≤ 140737488355328) (hbase : base ≤ w.heap.size)
    (h : ∀ v' w', OwnB w' base v' (l0 ++ lx) → w.grownBy w' v.ownBlock → (v'.ownBlock = v.ownBlock ∨ v'.ownBlock = some w.heap.size) → wpList Tryz.prog ops Q rest (a.put o.dst v') w') : wpList Tryz.prog ops Q (o :: rest) a w := by
  obtain ⟨i0, hi, hz0, hz1, hz2⟩ := info_some Tryz.info5
  obtain ⟨hoct, hO⟩ := hO
  have fin : ∀ v' w', w'.ownsRow base 5 1 v' (l0.length + lx.length) (l0.map (Value.int .u8) ++ lx.map (Value.int .u8)) → w.grownBy w' v.ownBlock → (v'.ownBlock = v.ownBlock ∨ v'.ownBlock = some w.heap.size) → wpList Tryz.prog ops Q rest (a.put o.dst v') w' := by
    intro v' w' h1 h2 h3
    refine h v' w' ?_ h2 h3
    unfold OwnB
    rw [List.length_append, List.map_append]
    exact h1
  rcases hO with ⟨rfl, ax, cap, rfl, hn⟩ | ⟨hne, b, off, cap, rfl, hcap, hm, hc⟩
  · cases ax with
    | none =>
      obtain rfl := hn rfl
      refine wpList_append_own_none hgd s x 25 ho base 5 i0 1 Tryz.underlying25 hi v l0.length (l0.map (Value.int .u8)) hs hown hx ?_
      refine fin v w ?_ (grown_refl w _) (.inl rfl)
      unfold OwnB at hown
      simpa using hown
    | some ad =>
      refine wpList_append_own_at w hgd s x 25 ho base 5 i0 (.int .u8 0) 1 1 Tryz.underlying25 hi hz0 hz1 hz2 rfl (by decide) v l0.length _ hs hown ad 0 cap [] hx rfl (fun j u hj => by simp at hj) (fun u hu => by cases hu) ?_ ?_ hbase ?_
      · simp only [List.length_nil] at hsz; unfold maxLen; omega
      · simp only [List.length_nil] at hsz; omega
      · intro v' w' h1 h2 _ h4
        exact fin v' w' (by simpa using h1) h2 h4
  · refine wpList_append_own_at w hgd s x 25 ho base 5 i0 (.int .u8 0) 1 1 Tryz.underlying25 hi hz0 hz1 hz2 rfl (by decide) v l0.length _ hs hown ⟨b, off, none⟩ lx.length cap (lx.map (Value.int .u8)) hx (by simp) ?_ (one_u8 lx) ?_ ?_ hbase ?_
    · intro j u hj
      rw [List.getElem?_map] at hj
      cases hx : lx[j]? with
      | none => rw [hx] at hj; cases hj
      | some y =>
        rw [hx] at hj
        simp at hj
        subst hj
        rw [Addr.add_lit]
        exact hc j y hx
    · unfold maxLen; omega
    · omega
    · intro v' w' h1 h2 _ h4
      exact fin v' w' h1 h2 h4
theorem wpList_append_lits_at (w0 : World) {ops : Array Oper} {rest : List Oper} {o : Oper} {a : Act} {Q : Exit → Act → World → Prop} (hgd : o.guard = none) (s x : Operand)
    (ho : o.op = .call { callee := .builtin .append, args := #[s, x], argTypes := #[25, 25] }) (base : Nat) (v : Value) (l0 : List Int) (hs : a.eval s = v) (hown : OwnB w0 base v l0)
    (lx : List Int) (n : Nat) (cs : Array Value) (hx : a.eval x = .slice (some ⟨w0.heap.size, 0, none⟩) n n) (hn : lx.length = n) (hcs : (lx.map (Value.int .u8)).toArray = cs) (hoct : ∀ y ∈ lx, 0 ≤ y ∧ y ≤ 255) (hsz : l0.length + lx.length ≤ 140737488355328) (hbase : base ≤ w0.heap.size)
    (h : ∀ v' w', OwnB w' base v' (l0 ++ lx) → w0.grownBy w' v.ownBlock → (v'.ownBlock = v.ownBlock ∨ ∃ g, v'.ownBlock = some g ∧ w0.heap.size ≤ g) → wpList Tryz.prog ops Q rest (a.put o.dst v') w') : wpList Tryz.prog ops Q (o :: rest) a (w0.alloc (.cells cs 5)) := by
  subst hn
  subst hcs
  refine wpList_append_octs_at _ hgd s x ho base v l0 hs (World.ownsRow.alloc hown _) _ lx hx (Octs.made w0 lx hoct (by unfold maxLen; omega)) hsz (by simp; omega) ?_
  intro v' w' h1 h2 h3
  refine h v' w' h1 (grown_trans (grown_up (up_alloc _ _) _) h2) ?_
  rcases h3 with h3 | h3
  · exact .inl h3
  · exact .inr ⟨_, h3, by simp⟩
theorem strCells_nums (s : ByteArray) : Lib.strCells s = (nums s).map (Value.int .u8) := by
  simp [Lib.strCells, nums, List.map_map, Function.comp_def]
theorem append_str_run (w : World) (ty : TypeId) (base : Nat) (v : Value) (l0 : List Int) (hown : OwnB w base v l0) (t : ByteArray) (hsz : l0.length + t.size ≤ 140737488355328) (hbase : base ≤ w.heap.size) :
    ∃ v' w', (Builtin.append_ #[25, 9] ty #[v, .string t]).run Tryz.prog w = .ok v' w' ∧ OwnB w' base v' (l0 ++ nums t) ∧ w.grownBy w' v.ownBlock ∧ (v'.ownBlock = v.ownBlock ∨ ∃ g, v'.ownBlock = some g ∧ w.heap.size ≤ g) := by
  obtain ⟨i0, hi, hz0, hz1, hz2⟩ := info_some Tryz.info5
  have key : ∀ base', base' ≤ w.heap.size → OwnB w base' v l0 → ∃ v' w', (Builtin.append_ #[25, 9] ty #[v, .string t]).run Tryz.prog w = .ok v' w' ∧ OwnB w' base' v' (l0 ++ nums t) ∧ w.grownBy w' v.ownBlock := by
    intro base' hb' ho'
    obtain ⟨v', w', h1, h2, h3, _⟩ := Lib.run_append_own_string (P := Tryz.prog) w base' 25 9 ty 5 i0 Tryz.underlying25 Tryz.underlying9 hi hz0 hz1 hz2 v l0.length _ ho' t (by unfold maxLen; omega) hsz hb'
    refine ⟨v', w', h1, ?_, h3⟩
    unfold OwnB
    rw [List.length_append, nums_length, List.map_append, ← strCells_nums]
    exact h2
  obtain ⟨v', w', h1, h2, h3⟩ := key base hbase hown
  refine ⟨v', w', h1, h2, h3, ?_⟩
  obtain ⟨hl, hcase⟩ := hown
  rcases hcase with ⟨rfl, h0⟩ | ⟨g, cap, cur, rfl, hg, hb, hn, hm, hcs, htk⟩
  · have hnil : l0 = [] := by cases l0 with | nil => rfl | cons _ _ => simp at h0
    subst hnil
    obtain ⟨v2, w2, k1, k2, _⟩ := key w.heap.size (Nat.le_refl _) (OwnB.nil _ _)
    rw [h1] at k1
    injection k1 with e1 e2
    subst e1 e2
    cases ho : v'.ownBlock with
    | none => exact .inl rfl
    | some g => exact .inr ⟨g, rfl, (k2.lt g ho).1⟩
  · by_cases hroom : l0.length + t.size ≤ cap
    · have hr := Lib.run_append_room_string (P := Tryz.prog) w 25 9 ty 5 i0 Tryz.underlying25 Tryz.underlying9 hi hz1 g l0.length cap cur hb t hroom (by rw [hcs]; omega)
      rw [h1] at hr
      injection hr with e1 e2
      subst e1
      exact .inl rfl
    · have holds : ∀ j u, (l0.map (Value.int .u8))[j]? = some u → w.cell? ((⟨g, 0, none⟩ : Addr).add j) = some u := World.ownsRow.cells (g := g) (base := base) (e := 5) (size := 1) (n := l0.length) ⟨hl, .inr ⟨g, cap, cur, rfl, hg, hb, hn, hm, hcs, htk⟩⟩ rfl
      have hr := Lib.run_append_grow_string (P := Tryz.prog) w 25 9 ty 5 i0 (.int .u8 0) Tryz.underlying25 Tryz.underlying9 hi hz0 ⟨g, 0, none⟩ l0.length cap (l0.map (Value.int .u8)) (by rw [List.length_map, hz1, Nat.mul_one]) holds t (by omega) (by omega) (by rw [hz2]; exact growslice_fits (by omega) (by omega))
      rw [h1] at hr
      injection hr with e1 e2
      subst e1
      exact .inr ⟨_, rfl, Nat.le_refl _⟩
theorem wpList_append_str_at (w : World) {ops : Array Oper} {rest : List Oper} {o : Oper} {a : Act} {Q : Exit → Act → World → Prop} (hgd : o.guard = none) (s x : Operand)
    (ho : o.op = .call { callee := .builtin .append, args := #[s, x], argTypes := #[25, 9] }) (base : Nat) (v : Value) (l0 : List Int) (hs : a.eval s = v) (hown : OwnB w base v l0)
    (t : ByteArray) (hx : a.eval x = .string t) (hsz : l0.length + t.size ≤ 140737488355328) (hbase : base ≤ w.heap.size)
    (h : ∀ v' w', OwnB w' base v' (l0 ++ nums t) → w.grownBy w' v.ownBlock → (v'.ownBlock = v.ownBlock ∨ ∃ g, v'.ownBlock = some g ∧ w.heap.size ≤ g) → wpList Tryz.prog ops Q rest (a.put o.dst v') w') : wpList Tryz.prog ops Q (o :: rest) a w := by
  refine wpList_plain hgd fun K hK => ?_
  obtain ⟨v', w', hr, h2, h3, h4⟩ := append_str_run w o.type base v l0 hown t hsz hbase
  unfold Oper.wp execOp
  simp only [ho, resolve, invoke, builtin, Sem.run_bind, Sem.run_pure, Result.andThen_ok, List.map_toArray, List.map_cons, List.map_nil, hs, hx, hr]
  exact hK _ _ (h v' w' h2 h3 h4)
end Go.Proofs.YthiegmhplnbdlaaGreat



namespace Go.Proofs.YthiegmhplnbdlaaGreat
open Go.RowKit
set_option linter.unusedVariables false
theorem OwnB.made (w : World) (l : List Int) (hm : l.length ≤ maxLen) : OwnB (w.alloc (.cells (l.map (Value.int .u8)).toArray 5)) w.heap.size (.slice (some ⟨w.heap.size, 0, none⟩) l.length l.length) l := by
  refine ⟨by simp, .inr ⟨w.heap.size, l.length, (l.map (Value.int .u8)).toArray, rfl, Nat.le_refl _, ?_, Nat.le_refl _, hm, by simp, ?_⟩⟩
  · show (w.heap.push _)[w.heap.size]? = _
    simp
  · rw [Nat.mul_one]
    exact List.take_of_length_le (by simp)
end Go.Proofs.YthiegmhplnbdlaaGreat

namespace Go.Proofs.YthiegmhplnbdlaaGreat
open Go.RowKit SumPlain
set_option linter.unusedVariables false
set_option linter.unusedSimpArgs false
def lastK : List Int → List En → List Int
  | prev, [] => prev
  | _, x :: r => lastK (nums x.key) r
theorem bodyO_snoc : ∀ (l : List En) (i : Nat) (prev : List Int) (x : En), bodyO i prev (l ++ [x]) = bodyO i prev l ++ entO (shareN (i + l.length) (lastK prev l) x) x
  | [], i, prev, x => by simp [bodyO, lastK]
  | y :: r, i, prev, x => by
    simp only [List.cons_append, bodyO, lastK, List.length_cons]
    rw [bodyO_snoc r (i + 1) (nums y.key) x, List.append_assoc, show i + 1 + r.length = i + (r.length + 1) by omega]
theorem tailO_snoc : ∀ (l : List En) (i : Nat) (prev : List Int) (off : Nat) (x : En), tailO i prev off (l ++ [x]) = tailO i prev off l ++ (if (i + l.length) % 4 = 0 then [(((off + (bodyO i prev l).length) / 256 % 256 : Nat) : Int), (((off + (bodyO i prev l).length) % 256 : Nat) : Int)] else [])
  | [], i, prev, off, x => by simp [tailO, bodyO]
  | y :: r, i, prev, off, x => by
    simp only [List.cons_append, tailO, bodyO, List.length_cons]
    rw [tailO_snoc r (i + 1) (nums y.key) (off + (entO (shareN i prev y) y).length) x, List.append_assoc, show i + 1 + r.length = i + (r.length + 1) by omega, List.length_append]
    rw [show off + (entO (shareN i prev y) y).length + (bodyO (i + 1) (nums y.key) r).length = off + ((entO (shareN i prev y) y).length + (bodyO (i + 1) (nums y.key) r).length) by omega]
theorem lastK_take (l : List En) : ∀ (k : Nat) (y : En) (prev : List Int), l[k]? = some y → lastK prev (l.take (k + 1)) = nums y.key := by
  induction l with
  | nil => intro k y prev h; simp at h
  | cons z r ih =>
    intro k y prev h
    cases k with
    | zero => simp at h; subst h; simp [lastK]
    | succ k =>
      simp at h
      rw [List.take_succ_cons, lastK]
      exact ih k y _ h
theorem take_at {A : Type} (l : List A) (k : Nat) (x : A) (h : l[k]? = some x) : l.take (k + 1) = l.take k ++ [x] := by
  rw [List.take_add_one, h]
  rfl
theorem octets_len (n : Int) (h0 : 0 ≤ n) (h1 : n ≤ 18446744073709551615) : 1 ≤ (octets n).length ∧ (octets n).length ≤ 9 := by
  have := (octets_form n h0 h1).size
  have := size_bd n
  omega
theorem entO_len (n : Nat) (x : En) (h : mayE x = true) (hn : n ≤ (nums x.key).length) : (entO n x).length ≤ 645 := by
  obtain ⟨k1, k2, s1, s2, d1, d2, v1⟩ := mayE_le h
  have a1 := (octets_len (n : Int) (by omega) (by omega)).2
  have a2 := (octets_len (((nums x.key).length - n : Nat) : Int) (by omega) (by omega)).2
  have a3 := (octets_len x.seq (by omega) (by omega)).2
  have a4 := (octets_len ((nums x.val).length : Int) (by omega) (by omega)).2
  unfold entO
  simp only [List.length_append, List.length_cons, List.length_drop]
  omega
theorem bodyO_le : ∀ (l : List En) (i : Nat) (prev : List Int), (∀ x ∈ l, mayE x = true) → (bodyO i prev l).length ≤ 645 * l.length
  | [], _, _, _ => by simp [bodyO]
  | x :: r, i, prev, h => by
    unfold bodyO
    have h1 := bodyO_le r (i + 1) (nums x.key) (fun y hy => h y (by simp [hy]))
    have h2 := entO_len (shareN i prev x) x (h x (by simp)) (share_le i prev x).2.1
    rw [List.length_append, List.length_cons]
    omega
def OctL (l : List Int) : Prop := ∀ x ∈ l, 0 ≤ x ∧ x ≤ 255
theorem OctL.app {l r : List Int} (h : OctL l) (k : OctL r) : OctL (l ++ r) := fun x hx => by
  rcases List.mem_append.1 hx with q | q
  · exact h x q
  · exact k x q
theorem entO_oct (n : Nat) (x : En) (h : mayE x = true) (hn : n ≤ (nums x.key).length) : OctL (entO n x) := by
  obtain ⟨k1, k2, s1, s2, d1, d2, v1⟩ := mayE_le h
  unfold entO
  refine OctL.app (octets_form _ (by omega) (by omega)).octet (OctL.app (octets_form _ (by omega) (by omega)).octet (OctL.app (octets_form _ (by omega) (by omega)).octet (OctL.app (octets_form _ (by omega) (by omega)).octet ?_)))
  intro y hy
  rcases List.mem_cons.1 hy with rfl | hy
  · omega
  · exact OctL.app (fun z hz => nums_octet _ z (List.mem_of_mem_drop hz)) (nums_octet _) y hy
theorem bodyO_oct : ∀ (l : List En) (i : Nat) (prev : List Int), (∀ x ∈ l, mayE x = true) → OctL (bodyO i prev l)
  | [], _, _, _ => by intro y hy; simp [bodyO] at hy
  | x :: r, i, prev, h => by
    unfold bodyO
    exact OctL.app (entO_oct _ x (h x (by simp)) (share_le i prev x).2.1) (bodyO_oct r (i + 1) (nums x.key) (fun y hy => h y (by simp [hy])))
theorem tailO_oct : ∀ (l : List En) (i : Nat) (prev : List Int) (off : Nat), OctL (tailO i prev off l)
  | [], _, _, _ => by intro y hy; simp [tailO] at hy
  | x :: r, i, prev, off => by
    unfold tailO
    refine OctL.app ?_ (tailO_oct r _ _ _)
    split
    · intro y hy
      simp at hy
      omega
    · intro y hy; cases hy
theorem own_shape {w : World} {base : Nat} {v : Value} {l : List Int} (h : OwnB w base v l) : ∃ a n c, v = .slice a n c ∧ Hid (n = l.length) := by
  obtain ⟨a, c, e, _⟩ := own_len h
  exact ⟨a, _, c, e, rfl⟩
structure EnW (w : World) (vb vt : Value) (B T : List Int) (W : World) : Prop where
  ob : OwnB W w.heap.size vb B
  ot : OwnB W w.heap.size vt T
  ap : ∀ g, vb.ownBlock = some g → vt.ownBlock ≠ some g
  up : Below w.heap.size w W
theorem EnW.upw {w : World} {vb vt : Value} {B T : List Int} {W W' : World} (H : EnW w vb vt B T W) (h : Below W.heap.size W W') : EnW w vb vt B T W' := ⟨own_up H.ob h, own_up H.ot h, H.ap, up_trans H.up h⟩
theorem EnW.appB {w : World} {vb vt v' : Value} {B T B' : List Int} {W W' : World} (H : EnW w vb vt B T W) (ho : OwnB W' w.heap.size v' B') (hg : W.grownBy W' vb.ownBlock) (ha : v'.ownBlock = vb.ownBlock ∨ ∃ g, v'.ownBlock = some g ∧ W.heap.size ≤ g) : EnW w v' vt B' T W' := by
  refine ⟨ho, H.ot.kept hg ?_, ?_, H.up.grown hg H.up.size (fun j hj => (H.ob.lt j hj).1)⟩
  · cases h : vt.ownBlock with
    | none => exact .inl rfl
    | some g => exact .inr (fun e => H.ap g e.symm h)
  · intro g hg' ht
    rcases ha with ha | ⟨g2, ha, hge⟩
    · rw [ha] at hg'; exact H.ap g hg' ht
    · rw [ha] at hg'
      injection hg' with e
      have := (H.ot.lt g ht).2
      omega
theorem EnW.appT {w : World} {vb vt v' : Value} {B T T' : List Int} {W W' : World} (H : EnW w vb vt B T W) (ho : OwnB W' w.heap.size v' T') (hg : W.grownBy W' vt.ownBlock) (ha : v'.ownBlock = vt.ownBlock ∨ ∃ g, v'.ownBlock = some g ∧ W.heap.size ≤ g) : EnW w vb v' B T' W' := by
  refine ⟨H.ob.kept hg ?_, ho, ?_, H.up.grown hg H.up.size (fun j hj => (H.ot.lt j hj).1)⟩
  · cases h : vb.ownBlock with
    | none => exact .inl rfl
    | some g => exact .inr (fun e => H.ap g h e.symm)
  · intro g hg' ht
    rcases ha with ha | ⟨g2, ha, hge⟩
    · rw [ha] at ht; exact H.ap g hg' ht
    · rw [ha] at ht
      injection ht with e
      have := (H.ob.lt g hg').2
      omega
end Go.Proofs.YthiegmhplnbdlaaGreat

namespace Go.Proofs.YthiegmhplnbdlaaGreat
open Go.RowKit SumPlain
set_option linter.unusedVariables false
set_option linter.unusedSimpArgs false
theorem nums_cut (s : ByteArray) (a : Nat) : nums (s.extract a (nums s).length) = (nums s).drop a := by
  have h := str_cut (nums s) a (nums s).length
  rw [str_nums] at h
  rw [h, nums_str _ (fun x hx => nums_octet s x (List.mem_of_mem_drop (List.mem_of_mem_take hx)))]
  rw [List.take_of_length_le (by rw [List.length_drop]; exact Nat.le_refl _)]
theorem Octs.put {w : World} {base : Nat} {v : Value} {n : Int} (h : OwnB w base v (octets n)) (h0 : 0 ≤ n) (h1 : n ≤ 18446744073709551615) : Octs w v (octets n) := Octs.own h (octets_form n h0 h1).octet
end Go.Proofs.YthiegmhplnbdlaaGreat



namespace Go.Proofs.YthiegmhplnbdlaaGreat
open Go.RowKit SumPlain
set_option linter.unusedVariables false
theorem Octs.far {w w' : World} {v : Value} {l : List Int} {r : Option Nat} (h : Octs w v l) (hg : w.grownBy w' r) (hne : ∀ b, v.ownBlock = some b → l ≠ [] → some b ≠ r) : Octs w' v l :=
  h.moved fun b off x hn hv hc => hg.cell hc (hne b hv hn)
theorem Octs.lt {w : World} {v : Value} {l : List Int} (h : Octs w v l) (b : Nat) (hb : v.ownBlock = some b) (hn : l ≠ []) : b < w.heap.size := by
  obtain ⟨_, h⟩ := h
  rcases h with ⟨h0, _⟩ | ⟨_, b', off, cap, rfl, _, _, hj⟩
  · exact absurd h0 hn
  · simp [Value.ownBlock] at hb
    subst hb
    cases l with
    | nil => exact absurd rfl hn
    | cons x r => exact World.block_lt_of_cell? w ⟨b', off + 0, none⟩ (hj 0 x rfl)
theorem Octs.back {w : World} {b off cap n : Nat} {l : List Int} (h : Octs w (.slice (some ⟨b, off, none⟩) n cap) l) (hn : n = l.length) (j : Nat) (hj : j ≤ l.length) (hc : l.length ≤ cap) : Octs w (.slice (some ⟨b, off + j, none⟩) (n - j) (cap - j)) (l.drop j) := by
  obtain ⟨hx, h0⟩ := h
  refine ⟨fun x hx' => hx x (List.mem_of_mem_drop hx'), ?_⟩
  have hlen : (l.drop j).length = n - j := by rw [List.length_drop, hn]
  by_cases he : l.drop j = []
  · have : n - j = 0 := by rw [← hlen, he]; rfl
    rw [he, this]
    exact .inl ⟨rfl, _, _, rfl, fun h => by cases h⟩
  · rcases h0 with ⟨e, _⟩ | ⟨_, b', off', cap', hv, hc', hm, hcell⟩
    · subst e; simp at he
    · simp only [Value.slice.injEq, Option.some.injEq, Addr.mk.injEq] at hv
      obtain ⟨⟨rfl, rfl, _⟩, _, rfl⟩ := hv
      refine .inr ⟨he, b, off + j, cap - j, by rw [hlen], by rw [List.length_drop]; omega, by omega, fun i x hi => ?_⟩
      rw [List.getElem?_drop] at hi
      have := hcell (j + i) x hi
      rw [Nat.add_assoc]
      exact this
theorem Octs.form {w : World} {a : Option Addr} {c : Nat} {l : List Int} (h : Octs w (.slice a l.length c) l) : (a = none ∧ l = [] ∧ c = 0) ∨ (∃ x, a = some x ∧ l = []) ∨ (∃ b off, a = some ⟨b, off, none⟩ ∧ l ≠ [] ∧ l.length ≤ c ∧ c ≤ maxLen) := by
  obtain ⟨hx, hv⟩ := h
  rcases hv with ⟨rfl, a', cap, e, ha⟩ | ⟨hne, b, off, cap, e, h1, h2, h3⟩
  · simp at e
    obtain ⟨rfl, rfl⟩ := e
    cases a with
    | none => exact .inl ⟨rfl, rfl, ha rfl⟩
    | some x => exact .inr (.inl ⟨x, rfl, rfl⟩)
  · simp at e
    obtain ⟨rfl, rfl⟩ := e
    exact .inr (.inr ⟨b, off, rfl, hne, h1, h2⟩)
theorem wrap64_id (n : Int) (h0 : 0 ≤ n) (h1 : n ≤ 9223372036854775807) : IntKind.i64.wrap n = n := by
  simp [IntKind.wrap, IntKind.bits, IntKind.signed]; omega
theorem Octs.cut {w : World} {b off cap n : Nat} {l : List Int} (h : Octs w (.slice (some ⟨b, off, none⟩) n cap) l) (hn : n = l.length) (j : Nat) (hj : j ≤ l.length) : Octs w (.slice (some ⟨b, off, none⟩) j cap) (l.take j) := by
  have := h.front (p := l.take j) (q := l.drop j) (List.take_append_drop j l).symm hn
  rw [List.length_take, Nat.min_eq_left hj] at this
  exact this
end Go.Proofs.YthiegmhplnbdlaaGreat







namespace Go.Proofs.YthiegmhplnbdlaaGreat
open Go.RowKit SumPlain
set_option linter.unusedVariables false
def NumS (X : List Int) (most : Int) (j : Nat) (y : Int) (n j' : Nat) (y' : Int) : Prop :=
  (n : Int) ≤ most ∧ ((y' = 0 ∧ y = 0 ∧ numQ most 21 (X.drop j) = .ok ((n : Int), X.drop j')) ∨ (y' ≠ 0 ∧ (y ≠ 0 ∨ ∃ z, numQ most 21 (X.drop j) = .error z)))
def TakeS (X : List Int) (m j : Nat) (y : Int) (l : List Int) (j' : Nat) (y' : Int) : Prop :=
  (y' = 0 ∧ y = 0 ∧ j + m ≤ X.length ∧ j' = j + m ∧ l = (X.drop j).take m) ∨ (y' ≠ 0 ∧ l = [] ∧ (y ≠ 0 ∨ X.length - j < m))
structure Seven (X : List Int) (j0 n k s v : Nat) (d r u : List Int) (j7 : Nat) (y7 : Int) : Prop where
  ex : ∃ (j1 j2 j3 j4 j5 j6 : Nat) (y1 y2 y3 y4 y5 y6 : Int), NumS X 65536 j0 0 n j1 y1 ∧ NumS X 65536 j1 y1 k j2 y2 ∧ NumS X 1099511627776 j2 y2 s j3 y3 ∧ NumS X 65536 j3 y3 v j4 y4 ∧ TakeS X 1 j4 y4 d j5 y5 ∧ TakeS X k j5 y5 r j6 y6 ∧ TakeS X v j6 y6 u j7 y7 ∧ j0 ≤ X.length ∧ j1 ≤ X.length ∧ j2 ≤ X.length ∧ j3 ≤ X.length ∧ j4 ≤ X.length
theorem Seven.bad {X prev : List Int} {j0 n k s v : Nat} {d r u : List Int} {j7 : Nat} {y7 : Int} (h : Seven X j0 n k s v d r u j7 y7) (hy : y7 ≠ 0) : entP prev (X.drop j0) = none := by
  obtain ⟨j1, j2, j3, j4, j5, j6, y1, y2, y3, y4, y5, y6, N1, N2, N3, N4, T1, T2, T3, l0, l1, l2, l3, l4⟩ := h
  unfold entP
  rcases N1.2 with ⟨rfl, _, q1⟩ | ⟨_, e | ⟨z, q1⟩⟩
  · rw [q1]
    simp only
    rcases N2.2 with ⟨rfl, _, q2⟩ | ⟨_, e | ⟨z, q2⟩⟩
    · rw [q2]
      simp only
      rcases N3.2 with ⟨rfl, _, q3⟩ | ⟨_, e | ⟨z, q3⟩⟩
      · rw [q3]
        simp only
        rcases N4.2 with ⟨rfl, _, q4⟩ | ⟨_, e | ⟨z, q4⟩⟩
        · rw [q4]
          simp only
          rcases T1 with ⟨rfl, _, t1, rfl, _⟩ | ⟨_, _, e | t1⟩
          · rw [drop_at X j4 (by omega)]
            simp only
            rw [if_pos]
            rw [List.length_drop]
            rcases T2 with ⟨rfl, _, t2, rfl, _⟩ | ⟨_, _, e | t2⟩
            · rcases T3 with ⟨rfl, _, t3, rfl, _⟩ | ⟨_, _, e | t3⟩
              · exact absurd rfl hy
              · exact absurd rfl e
              · right; left; omega
            · exact absurd rfl e
            · left; omega
          · exact absurd rfl e
          · rw [List.drop_of_length_le (by omega)]
        · exact absurd rfl e
        · rw [q4]
      · exact absurd rfl e
      · rw [q3]
    · exact absurd rfl e
    · rw [q2]
  · exact absurd rfl e
  · rw [q1]
end Go.Proofs.YthiegmhplnbdlaaGreat

namespace Go.Proofs.YthiegmhplnbdlaaGreat
open Go.RowKit SumPlain
set_option linter.unusedVariables false
set_option linter.unusedSimpArgs false
theorem Tryz.info50 : (Tryz.prog.info? 50).map (fun i => (i.zero, i.size, i.bytes)) = some (some (.agg #[.string ⟨#[]⟩, .int .i64 0, .int .i64 0, .string ⟨#[]⟩]), 4, 48) := by kernel_rfl
theorem enRow_one (y : En) : ∀ r ∈ [enRow y], ∀ u ∈ r, u.oneCell' = true := by
  intro r hr u hu
  simp only [List.mem_cons, List.mem_nil_iff, or_false] at hr
  subst hr
  simp only [enRow, List.mem_cons, List.mem_nil_iff, or_false] at hu
  rcases hu with rfl | rfl | rfl | rfl <;> rfl
theorem TakeS.oct {X : List Int} {m j : Nat} {y : Int} {l : List Int} {j' : Nat} {y' : Int} (h : TakeS X m j y l j' y') (hX : ∀ x ∈ X, 0 ≤ x ∧ x ≤ 255) : ∀ x ∈ l, 0 ≤ x ∧ x ≤ 255 := by
  rcases h with ⟨_, _, _, _, rfl⟩ | ⟨_, rfl, _⟩
  · exact fun x hx => hX x (List.mem_of_mem_drop (List.mem_of_mem_take hx))
  · simp
theorem TakeS.len {X : List Int} {m j : Nat} {y : Int} {l : List Int} {j' : Nat} {y' : Int} (h : TakeS X m j y l j' y') : l.length ≤ m := by
  rcases h with ⟨_, _, _, _, rfl⟩ | ⟨_, rfl, _⟩
  · rw [List.length_take]; omega
  · simp
def sliceLen : Value → Nat
  | .slice _ n _ => n
  | _ => 0
end Go.Proofs.YthiegmhplnbdlaaGreat

namespace Go.Proofs.YthiegmhplnbdlaaGreat
open Go.RowKit SumPlain
set_option linter.unusedVariables false
set_option maxRecDepth 20000
def frameOf (k : Int) (l : List Int) : List Int := guardOf (octets (l.length : Int) ++ k :: l)
theorem far_cell {w w' : World} {v : Value} {base : Nat} {l : List Int} (ho : OwnB w base v l) (hg : w.grownBy w' v.ownBlock) {b off : Nat} {x : Value} (hb : b < base) (hs : b < w.heap.size) (h : w.cell? ⟨b, off, none⟩ = some x) : w'.cell? ⟨b, off, none⟩ = some x := by
  rw [hg.cell_far ⟨b, off, none⟩ hs]
  · exact h
  · intro e
    have := (ho.lt b e.symm).1
    omega
theorem put_from {w : World} (x y : Value) (n : Int) (h0 : 0 ≤ n) (h1 : n ≤ 18446744073709551615) (wx : World) (hb : Below (w.heap.size + 1) (w.alloc (.cells #[x, y] 80)) wx) :
    Calls Tryz.prog 50 #[.int .u64 n] wx fun e w' => ∃ v, e = .returned v ∧ w'.cell? ⟨w.heap.size, 0, none⟩ = some x ∧ w'.cell? ⟨w.heap.size, 1, none⟩ = some y ∧
      Hid (∀ o, (w'.alloc o).cell? ⟨w.heap.size, 0, none⟩ = some x ∧ (w'.alloc o).cell? ⟨w.heap.size, 1, none⟩ = some y) ∧ Hid (OwnB w' (w.heap.size + 1) v (octets n)) ∧ Hid (w.heap.size + 1 ≤ w'.heap.size) ∧ Hid (Below wx.heap.size wx w') ∧ Hid (Below (w.heap.size + 1) (w.alloc (.cells #[x, y] 80)) w') := by
  refine (put_any n wx h0 h1).mono ?_
  rintro e w' ⟨v, rfl, ho, hb'⟩
  have hs := hb.size
  simp at hs
  have h2 := hb.trans (hb'.mono hs)
  have h3 : ∀ o, Below (w.heap.size + 1) (w.alloc (.cells #[x, y] 80)) (w'.alloc o) := fun o => h2.alloc (by have := h2.size; simpa using this) o
  refine ⟨v, rfl, ?_, ?_, fun o => ⟨?_, ?_⟩, OwnB.mono ho hs, Nat.le_trans hs hb'.size, hb', h2⟩
  · rw [h2.cell (by simp)]; simp [go_sem]
  · rw [h2.cell (by simp)]; simp [go_sem]
  · rw [(h3 o).cell (by simp)]; simp [go_sem]
  · rw [(h3 o).cell (by simp)]; simp [go_sem]
theorem le_al {n : Nat} {w : World} (h : n ≤ w.heap.size) (o : Obj) : n ≤ (w.alloc o).heap.size := by
  simp; omega
theorem one_made (w : World) (k : Int) (h0 : 0 ≤ k) (h1 : k ≤ 255) : Octs (w.alloc (.cells #[.int .u8 k] 5)) (.slice (some ⟨w.heap.size, 0, none⟩) 1 1) [k] :=
  Octs.made w [k] (by simp; omega) (by unfold maxLen; simp)
set_option maxHeartbeats 1000000 in
theorem fput_good (k : Int) (a : Option Addr) (c : Nat) (l : List Int) (w : World) (hv : Octs w (.slice a l.length c) l) (h0 : 0 ≤ k) (h1 : k ≤ 255) (hl : l.length ≤ 65536) :
    Calls Tryz.prog 24 #[.agg #[.int .i64 k, .slice a l.length c]] w fun e w' => ∃ v', e = .returned (.tuple #[v', .int .i64 0]) ∧ OwnB w' w.heap.size v' (frameOf k l) ∧ Below w.heap.size w w' := by
  have HV : Hid (Octs w (.slice a l.length c) l) := hv
  clear hv
  have g0 : ¬ k < 0 := by omega
  have g1 : ¬ 255 < k := by omega
  have g2 : ¬ (65536 : Int) < (l.length : Int) := by omega
  have g3 : IntKind.u64.wrap (l.length : Int) = (l.length : Int) := wrap_u64_id _ (by omega) (by omega)
  have g4 : IntKind.u8.wrap k = k := by simp [IntKind.wrap, IntKind.bits, IntKind.signed]; omega
  have HL : Hid ((octets (l.length : Int)).length ≤ 9) := (octets_len _ (by omega) (by omega)).2
  have HL2 : Hid ((octets (l.length : Int)).length + [k].length ≤ 140737488355328) := by have := HL.out; unfold Hid; simp; omega
  have HP : Hid (∀ (wx : World), Below (w.heap.size + 1) (w.alloc (.cells #[.int .i64 k, .slice a l.length c] 80)) wx → Calls Tryz.prog 50 #[.int .u64 (l.length : Int)] wx fun e w' => ∃ v, e = .returned v ∧ w'.cell? ⟨w.heap.size, 0, none⟩ = some (.int .i64 k) ∧ w'.cell? ⟨w.heap.size, 1, none⟩ = some (.slice a l.length c) ∧
      Hid (∀ o, (w'.alloc o).cell? ⟨w.heap.size, 0, none⟩ = some (.int .i64 k) ∧ (w'.alloc o).cell? ⟨w.heap.size, 1, none⟩ = some (.slice a l.length c)) ∧ Hid (OwnB w' (w.heap.size + 1) v (octets (l.length : Int))) ∧ Hid (w.heap.size + 1 ≤ w'.heap.size) ∧ Hid (Below wx.heap.size wx w') ∧ Hid (Below (w.heap.size + 1) (w.alloc (.cells #[.int .i64 k, .slice a l.length c] 80)) w')) := fun wx hb => put_from _ _ _ (by omega) (by omega) wx hb
  have HB0 : Hid (Below (w.heap.size + 1) (w.alloc (.cells #[.int .i64 k, .slice a l.length c] 80)) (w.alloc (.cells #[.int .i64 k, .slice a l.length c] 80)).drew) := (Below.refl _ _).drew
  have HB1 : Hid (∀ o, Below (w.heap.size + 1) (w.alloc (.cells #[.int .i64 k, .slice a l.length c] 80)) ((w.alloc (.cells #[.int .i64 k, .slice a l.length c] 80)).alloc o).drew) := fun o => ((Below.refl _ _).alloc (by simp) o).drew
  have HO : Hid (∀ o : Obj, Octs ((w.alloc o).alloc (.cells #[.int .u8 k] 5)).drew (.slice (some ⟨w.heap.size + 1, 0, none⟩) 1 1) [k]) := fun o => by have := (one_made (w.alloc o) k h0 h1).up (up_dr (Below.refl _ _)); simpa using this
  have HE : Hid (frameOf k l = guardOf (octets (l.length : Int) ++ k :: l)) := rfl
  go_enter Tryz.func24, Tryz.ntmps24
  go_wp2_with fail
  go_region_held3 (fun w' => w'.cell? ⟨w.heap.size, 0, none⟩ = some (.int .i64 k) ∧ w'.cell? ⟨w.heap.size, 1, none⟩ = some (.slice a l.length c)) (first | with_reducible exact ⟨z0, z1⟩ | with_reducible exact ⟨y0, y1⟩ | with_reducible exact yy.out _ | (simp [go_sem, y0, y1]; done) | (simp [go_sem]; done)) (first
    | (go_at_call 50; with_reducible refine (HP.out _ HB0.out).mono ?_; rintro e w' ⟨v, rfl, y0, y1, yy, ho, sz, hx, hb⟩)
    | (go_at_call 50; with_reducible refine (HP.out _ (HB1.out _)).mono ?_; rintro e w' ⟨v, rfl, y0, y1, yy, ho, sz, hx, hb⟩)
    | (refine step_append_octs _ (by rfl) _ _ (by rfl) (w.heap.size + 1) v (octets (l.length : Int)) (by rfl) (by with_reducible exact ho.out) (.slice (some ⟨w.heap.size + 1, 0, none⟩) 1 1) [k] (by rfl) (by exact (HO.out _).up hx.out) HL2.out sz.out ?_; intro v3 w3 o3 g3; have z0 := far_cell ho.out g3 (Nat.lt_succ_self _) sz.out y0; have z1 := far_cell ho.out g3 (Nat.lt_succ_self _) sz.out y1; obtain ⟨a3, n3, c3, rfl, N3⟩ := own_shape o3; have HB3 : Hid (Below (w.heap.size + 1) (w.alloc (.cells #[.int .i64 k, .slice a l.length c] 80)) w3) := hb.out.grown g3 sz.out (fun j hj => (ho.out.lt j hj).1); have O3 : Hid (OwnB w3 (w.heap.size + 1) (.slice a3 n3 c3) (octets (l.length : Int) ++ [k])) := o3; clear o3 g3)
    | (refine step_append_octs _ (by rfl) _ _ (by rfl) (w.heap.size + 1) v (octets (l.length : Int)) (by rfl) (own_up ho.out (up_alloc _ _)) (.slice (some ⟨w'.heap.size, 0, none⟩) 1 1) [k] (by rfl) (one_made _ k h0 h1) HL2.out (le_al sz.out _) ?_; intro v3 w3 o3 g3; have z0 := far_cell (own_up ho.out (up_alloc _ _)) g3 (Nat.lt_succ_self _) (le_al sz.out _) (yy.out _).1; have z1 := far_cell (own_up ho.out (up_alloc _ _)) g3 (Nat.lt_succ_self _) (le_al sz.out _) (yy.out _).2; obtain ⟨a3, n3, c3, rfl, N3⟩ := own_shape o3; have HB3 : Hid (Below (w.heap.size + 1) (w.alloc (.cells #[.int .i64 k, .slice a l.length c] 80)) w3) := (hb.out.alloc sz.out _).grown g3 (le_al sz.out _) (fun j hj => (ho.out.lt j hj).1); have O3 : Hid (OwnB w3 (w.heap.size + 1) (.slice a3 n3 c3) (octets (l.length : Int) ++ [k])) := o3; clear o3 g3))
  all_goals
    have HU3 : Hid (Below w.heap.size w w3) := (up_alloc w _).trans (HB3.out.mono (by omega))
    have HV3 : Hid (Octs w3 (.slice a l.length c) l) := HV.out.up HU3.out
    have S3 : Hid (w.heap.size + 1 ≤ w3.heap.size) := by have := HB3.out.size; unfold Hid; simpa using this
    have HL3 : Hid ((octets (l.length : Int) ++ [k]).length + l.length ≤ 140737488351232) := by have := HL.out; unfold Hid; simp; omega
    have HX : Hid (∀ x ∈ octets (l.length : Int) ++ k :: l, 0 ≤ x ∧ x ≤ 255) := by
      intro x hx
      rcases List.mem_append.1 hx with hx | hx
      · exact (octets_form _ (by omega) (by omega)).octet x hx
      · rcases List.mem_cons.1 hx with hx | hx
        · omega
        · exact HV.out.1 x hx
    clear HB3 HL2 HP HB0 HB1 HO g4 N3
    go_wp2_with (at_builtin; refine wpList_append_octs _ rfl _ _ rfl (w.heap.size + 1) _ _ rfl O3.out _ l rfl HV3.out ?c1 S3.out ?_)
    case c1 => have := HL3.out; omega
    intro v4 w4 o4 g4
    have HB4 : Hid (Below w.heap.size w w4) := HU3.out.grown g4 (by have := S3.out; omega) (fun j hj => by have := (O3.out.lt j hj).1; omega)
    obtain ⟨a4, c4, e4, _⟩ := own_len o4
    generalize hn4 : (octets (l.length : Int) ++ k :: l).length = n4 at e4
    subst e4
    have O4 : Hid (Octs w4 (.slice a4 n4 c4) (octets (l.length : Int) ++ k :: l)) := Octs.own o4 HX.out
    clear o4 g4 O3 hn4
    go_wp2_with fail
    refine (guard_any _ _ _ O4.out (by have := HL3.out; simp at this ⊢; omega)).mono ?_
    rintro e w5 ⟨v5, rfl, o5, b5⟩
    obtain ⟨a5, c5, e5, _⟩ := own_len o5
    generalize hn5 : (guardOf (octets (l.length : Int) ++ k :: l)).length = n5 at e5
    subst e5
    have O5 : Hid (OwnB w5 w.heap.size (.slice a5 n5 c5) (frameOf k l)) := OwnB.mono o5 HB4.out.size
    have HB5 : Hid (Below w.heap.size w w5) := HB4.out.trans (b5.mono HB4.out.size)
    clear o5 b5 hn5
    go_wp2
    go_ret2
    exact ⟨_, rfl, O5.out, HB5.out⟩
end Go.Proofs.YthiegmhplnbdlaaGreat

namespace Go.Proofs.YthiegmhplnbdlaaGreat
open Go.RowKit SumPlain
set_option linter.unusedVariables false
set_option maxRecDepth 20000
def set2 (w : World) (N : Nat) (a b : Value) : World := (w.setCell ⟨N, 0, none⟩ a).setCell ⟨N, 1, none⟩ b
theorem set2_blkF {w : World} {N : Nat} {t : TypeId} {x0 x1 : Value} (h : w.heap[N]? = some (.cells #[x0, x1] t)) (a b : Value) : (set2 w N a b).heap[N]? = some (.cells #[a, b] t) :=
  blk_set (blk_set h 0 a) 1 b
theorem set2_grownF (w : World) (N : Nat) (a b : Value) : w.grownBy (set2 w N a b) (some N) :=
  grown_trans (grown_set w ⟨N, 0, none⟩ a) (grown_set _ ⟨N, 1, none⟩ b)
theorem results_rec3 {fn : Func} {t : TypeId} (h : fn.results = #[.cell 2 t, .tmp 3, .tmp 4]) (hl : t = 80 ∨ t = 80) (tmps : Array Value) (w : World) {N : Nat} {a b : Value} (ht : tmps.getD 2 undef = .pointer (some ⟨N, 0, none⟩))
    (hc : w.heap[N]? = some (.cells #[a, b] t)) : (results fn tmps).run Tryz.prog w = .ok (.tuple #[.agg #[a, b], tmps.getD 3 undef, tmps.getD 4 undef]) w := by
  have c0 := blk_cell hc 0 a rfl
  have c1 := blk_cell hc 1 b rfl
  have ht' : tmps[2]?.getD undef = .pointer (some ⟨N, 0, none⟩) := by simpa using ht
  rcases hl with rfl | rfl
  · simp only [results, h]
    simp [ht', go_sem, c0, c1]
  · simp only [results, h]
    simp [ht', go_sem, c0, c1]
def NewB (w : World) (base : Nat) (v : Value) (l : List Int) : Prop := Octs w v l ∧ ∀ g, v.ownBlock = some g → base ≤ g
theorem NewB.far {w w' : World} {base : Nat} {v : Value} {l : List Int} (h : NewB w base v l) {r : Option Nat} (hg : w.grownBy w' r) (hr : ∀ g, v.ownBlock = some g → r ≠ some g) : NewB w' base v l := by
  refine ⟨h.1.moved ?_, h.2⟩
  intro b off x hne hb hc
  have hlt : b < w.heap.size := by
    rcases Nat.lt_or_ge b w.heap.size with q | q
    · exact q
    · simp [World.cell?, Array.getElem?_eq_none q] at hc
  rw [hg.cell_far ⟨b, off, none⟩ hlt (fun e => hr b hb e.symm)]
  exact hc
theorem NewB.up {w w' : World} {base : Nat} {v : Value} {l : List Int} (h : NewB w base v l) (hb : Below w.heap.size w w') : NewB w' base v l := ⟨h.1.up hb, h.2⟩
theorem NewB.mono {w : World} {base base' : Nat} {v : Value} {l : List Int} (h : NewB w base v l) (hb : base' ≤ base) : NewB w base' v l := ⟨h.1, fun g e => Nat.le_trans hb (h.2 g e)⟩
theorem OwnB.fresh {w : World} {base : Nat} {v : Value} {l : List Int} (h : OwnB w base v l) (hx : ∀ x ∈ l, 0 ≤ x ∧ x ≤ 255) : NewB w base v l := ⟨Octs.own h hx, fun g e => (h.lt g e).1⟩
theorem NewB.nil (w : World) (base : Nat) : NewB w base (.slice none 0 0) [] := (OwnB.nil w base).fresh (by simp)
end Go.Proofs.YthiegmhplnbdlaaGreat
