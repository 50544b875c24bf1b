/- The texts KBase, HLib, HNam, in this order. -/
import Derived.Test.YtnchjlimkgbfpaaGreatDoorProg
import Derived.WalkKit
import Derived.WalkLawsBesides
import Derived.WalkSpells
import Derived.KernelRfl
import Derived.Deep.QuietTactic
import Derived.BigQuiet
import Derived.BigRegion
import Derived.BigCall
import Derived.Deep.LoopGhost
import Derived.Deep.RegionWith
import Derived.Laws.BytesArg
import Derived.Laws.IdiomStrings
import Derived.Laws.AppendOwnNone
import Derived.Handy
import Derived.Shelf.Strconv.AppendIntPublic10
import Derived.Shelf.Strconv.AtoiAll

namespace Go.Proofs.YtnchjlimkgbfpaaGreatDoor
open Go.RowKit
set_option linter.unusedVariables false
set_option maxRecDepth 20000
theorem Tryz.info5 : (Tryz.prog.info? 5).map (fun i => (i.zero, i.size, i.bytes)) = some (some (.int .u8 0), 1, 1) := by kernel_rfl
theorem info_some {P : Program} {t : TypeId} {z : Value} {s b : Nat} (h : (P.info? t).map (fun i => (i.zero, i.size, i.bytes)) = some (some z, s, b)) :
    ∃ i, P.info? t = some i ∧ i.zero = some z ∧ i.size = s ∧ i.bytes = b := by
  cases e : P.info? t with
  | none => rw [e] at h; cases h
  | some i =>
    rw [e] at h
    simp at h
    exact ⟨i, rfl, h.1, h.2.1, h.2.2⟩
theorem ret_bool {a b : Bool} (h : a = b) : Ending.returned (.bool a) = .returned (.bool b) := by rw [h]
theorem ret_int {k : IntKind} {a b : Int} (h : a = b) : Ending.returned (.int k a) = .returned (.int k b) := by rw [h]
theorem up_drewN (w : World) (d : Nat) : Below w.heap.size w (w.drewN d) := ⟨rfl, rfl, rfl, Nat.le_refl _, fun _ _ => rfl⟩
theorem up_alloc (w : World) (o : Obj) : Below w.heap.size w (w.alloc o) := (Below.refl _ _).alloc (Nat.le_refl _) _
theorem up_trans {a b c : World} (h : Below a.heap.size a b) (k : Below b.heap.size b c) : Below a.heap.size a c := h.trans (k.mono h.size)
theorem up_al {a b : World} (h : Below a.heap.size a b) (o : Obj) : Below a.heap.size a (b.alloc o) := h.alloc h.size o
theorem up_dr {a b : World} (h : Below a.heap.size a b) : Below a.heap.size a b.drew := h.drew
theorem cells_new (w : World) (l more : List Value) (t : TypeId) (j : Nat) (u : Value) (h : l[j]? = some u) :
    (w.alloc (.cells (l ++ more).toArray t)).cell? ((⟨w.heap.size, 0, none⟩ : Addr).add j) = some u := by
  have hj : j < l.length := by
    rcases Nat.lt_or_ge j l.length with h1 | h1
    · exact h1
    · rw [List.getElem?_eq_none h1] at h; cases h
  have e : (l ++ more)[j]? = some u := by rw [List.getElem?_append_left hj]; exact h
  have ea : (⟨w.heap.size, 0, none⟩ : Addr).add j = ⟨w.heap.size, j, none⟩ := by rw [Addr.add_lit, Nat.zero_add]
  rw [ea, World.cell?_alloc_new]
  simpa using e
theorem one_u8 (l : List Int) : ∀ u ∈ l.map (Value.int .u8), u.oneCell' = true := by
  intro u hu
  obtain ⟨x, _, rfl⟩ := List.mem_map.1 hu
  rfl
def nums (s : ByteArray) : List Int := s.data.toList.map fun b => (b.toNat : Int)
theorem nums_octet (s : ByteArray) : ∀ x ∈ nums s, 0 ≤ x ∧ x ≤ 255 := by
  intro x hx
  obtain ⟨b, _, rfl⟩ := List.mem_map.1 hx
  have := b.toNat_lt
  omega
theorem str_nums (s : ByteArray) : strOfNums (nums s) = s := by
  obtain ⟨⟨l⟩⟩ := s
  simp only [strOfNums, nums, List.map_map]
  have e : l.map ((fun n : Int => UInt8.ofNat n.toNat) ∘ fun b : UInt8 => (b.toNat : Int)) = l := by
    refine (List.map_congr_left (g := id) fun x _ => ?_).trans (by simp)
    simp
  rw [e]
theorem nums_str (l : List Int) (h : ∀ x ∈ l, 0 ≤ x ∧ x ≤ 255) : nums (strOfNums l) = l := by
  simp only [nums, strOfNums, List.map_map]
  refine (List.map_congr_left (g := id) fun x hx => ?_).trans (by simp)
  have := h x hx
  simp only [Function.comp, UInt8.toNat_ofNat', id]
  omega
theorem nums_length (s : ByteArray) : (nums s).length = s.size := by
  unfold nums ByteArray.size
  rw [List.length_map, Array.length_toList]
theorem octet_inj (x y : Int) (hx : 0 ≤ x ∧ x ≤ 255) (hy : 0 ≤ y ∧ y ≤ 255) (h : UInt8.ofNat x.toNat = UInt8.ofNat y.toNat) : x = y := by
  have := congrArg UInt8.toNat h
  simp at this
  omega
theorem str_inj (l1 l2 : List Int) (h1 : ∀ x ∈ l1, 0 ≤ x ∧ x ≤ 255) (h2 : ∀ x ∈ l2, 0 ≤ x ∧ x ≤ 255) (h : strOfNums l1 = strOfNums l2) : l1 = l2 := by
  rw [← nums_str l1 h1, ← nums_str l2 h2, h]
theorem str_list (l : List Int) : (strOfNums l).toList = l.map fun n => UInt8.ofNat n.toNat := by
  simp [strOfNums]
theorem str_eq (l1 l2 : List Int) (h1 : ∀ x ∈ l1, 0 ≤ x ∧ x ≤ 255) (h2 : ∀ x ∈ l2, 0 ≤ x ∧ x ≤ 255) : ((strOfNums l1).toList == (strOfNums l2).toList) = decide (l1 = l2) := by
  by_cases h : l1 = l2
  · subst h; simp
  · rw [decide_eq_false h, beq_eq_false_iff_ne]
    intro e
    apply h
    apply str_inj l1 l2 h1 h2
    rw [str_list, str_list] at e
    simp [strOfNums, e]
theorem str_cut (l : List Int) (a b : Nat) : (strOfNums l).extract a b = strOfNums ((l.drop a).take (b - a)) := by
  simp only [strOfNums]
  rw [ByteArray.extract_mk]
  simp [List.map_drop, List.map_take]
theorem str_cat (l1 l2 : List Int) : strOfNums l1 ++ strOfNums l2 = strOfNums (l1 ++ l2) := by
  apply ByteArray.ext
  simp [strOfNums]
def lessL : List Int → List Int → Bool
  | _, [] => false
  | [], _ :: _ => true
  | x :: r, y :: q => decide (x < y) || (decide (x = y) && lessL r q)
theorem str_less : ∀ (l1 l2 : List Int), (∀ x ∈ l1, 0 ≤ x ∧ x ≤ 255) → (∀ x ∈ l2, 0 ≤ x ∧ x ≤ 255) → Op.bytesLess (strOfNums l1).toList (strOfNums l2).toList = lessL l1 l2 := by
  intro l1 l2
  rw [str_list, str_list]
  induction l1 generalizing l2 with
  | nil => intro _ _; cases l2 <;> simp [Op.bytesLess, lessL]
  | cons x r ih =>
    intro h1 h2
    cases l2 with
    | nil => simp [Op.bytesLess, lessL]
    | cons y q =>
      have hx := h1 x (by simp)
      have hy := h2 y (by simp)
      have e := ih q (fun z hz => h1 z (by simp [hz])) (fun z hz => h2 z (by simp [hz]))
      simp only [List.map_cons, Op.bytesLess, lessL]
      rw [e]
      have a1 : decide (UInt8.ofNat x.toNat < UInt8.ofNat y.toNat) = decide (x < y) := by
        rw [decide_eq_decide, UInt8.lt_iff_toNat_lt]
        simp
        omega
      have a2 : (UInt8.ofNat x.toNat == UInt8.ofNat y.toNat) = decide (x = y) := by
        by_cases c : x = y
        · subst c; simp
        · rw [decide_eq_false c, beq_eq_false_iff_ne]
          exact fun h => c (octet_inj x y hx hy h)
      rw [a1, a2]
def Octs (w : World) (v : Value) (l : List Int) : Prop :=
  (∀ x ∈ l, 0 ≤ x ∧ x ≤ 255) ∧
  ((l = [] ∧ ∃ a cap, v = .slice a 0 cap ∧ (a = none → cap = 0)) ∨
   (l ≠ [] ∧ ∃ b off cap, v = .slice (some ⟨b, off, none⟩) l.length cap ∧ l.length ≤ cap ∧ cap ≤ maxLen ∧ ∀ j x, l[j]? = some x → w.cell? ⟨b, off + j, none⟩ = some (.int .u8 x)))
theorem Octs.moved {w w' : World} {v : Value} {l : List Int} (h : Octs w v l) (e : ∀ b off x, l ≠ [] → v.ownBlock = some b → w.cell? ⟨b, off, none⟩ = some x → w'.cell? ⟨b, off, none⟩ = some x) : Octs w' v l := by
  obtain ⟨hx, hv⟩ := h
  refine ⟨hx, ?_⟩
  rcases hv with h0 | ⟨hn, b, off, cap, rfl, hc, hm, hj⟩
  · exact .inl h0
  · exact .inr ⟨hn, b, off, cap, rfl, hc, hm, fun j x hx => e b (off + j) _ hn rfl (hj j x hx)⟩
theorem Octs.up {w w' : World} {v : Value} {l : List Int} (h : Octs w v l) (hb : Below w.heap.size w w') : Octs w' v l :=
  h.moved fun b off x hn hv hc => (hb.cell (p := ⟨b, off, none⟩) (World.block_lt_of_cell? w ⟨b, off, none⟩ hc)).trans hc
def OwnB (w : World) (base : Nat) (v : Value) (l : List Int) : Prop := w.ownsRow base 5 1 v l.length (l.map (Value.int .u8))
theorem OwnB.nil (w : World) (base : Nat) : OwnB w base (.slice none 0 0) [] := World.ownsRow_nil _ _ _ _
theorem Octs.own {w : World} {base : Nat} {v : Value} {l : List Int} (h : OwnB w base v l) (hx : ∀ x ∈ l, 0 ≤ x ∧ x ≤ 255) : Octs w v l := by
  obtain ⟨_, h2⟩ := h
  refine ⟨hx, ?_⟩
  rcases h2 with ⟨rfl, h0⟩ | ⟨g, cap, cur, rfl, hg, hh, hn, hm, hs, ht⟩
  · exact .inl ⟨List.length_eq_zero_iff.1 h0, _, _, rfl, fun _ => rfl⟩
  · by_cases hl : l = []
    · subst hl
      exact .inl ⟨rfl, _, _, rfl, fun h => by cases h⟩
    · refine .inr ⟨hl, g, 0, cap, rfl, hn, hm, fun j x hj => ?_⟩
      have hj' : (l.map (Value.int .u8))[j]? = some (.int .u8 x) := by simp [hj]
      rw [← ht, List.getElem?_take] at hj'
      split at hj'
      · simp only [World.cell?, hh, Nat.zero_add]
        simpa using hj'
      · cases hj'
theorem Octs.made (w : World) (l : List Int) (hx : ∀ x ∈ l, 0 ≤ x ∧ x ≤ 255) (hm : l.length ≤ maxLen) : Octs (w.alloc (.cells (l.map (Value.int .u8)).toArray 5)) (.slice (some ⟨w.heap.size, 0, none⟩) l.length l.length) l := by
  refine ⟨hx, ?_⟩
  by_cases hl : l = []
  · subst hl; exact .inl ⟨rfl, _, _, rfl, fun h => by cases h⟩
  · refine .inr ⟨hl, w.heap.size, 0, l.length, rfl, Nat.le_refl _, hm, fun j x hj => ?_⟩
    have := cells_new w (l.map (Value.int .u8)) [] 5 j (.int .u8 x) (by simp [hj])
    simpa [Addr.add_lit] using this
theorem run_convert_octs (l : List Int) (v : Value) (w : World) (hv : Octs w v l) : (convert 88 9 v).run Tryz.prog w = .ok (.string (strOfNums l)) w := by
  obtain ⟨hx, hv⟩ := hv
  rcases hv with ⟨rfl, a, cap, rfl, _⟩ | ⟨hne, b, off, cap, rfl, hcap, hm, hc⟩
  · cases a with
    | none => exact run_convert_bytes_nil w 88 5 Tryz.underlying88 Tryz.underlying5 0 cap 9 Tryz.underlying9
    | some a =>
      have hl : (loadCells a 0).run Tryz.prog w = .ok (([] : List Int).map (Value.int .u8)).toArray w := by
        have := run_loadCells_list (P := Tryz.prog) w a [] (fun j v hj => by simp at hj)
        simpa using this
      rw [run_convert_bytes_string w 88 9 5 _ 0 cap Tryz.underlying88 Tryz.underlying5 Tryz.underlying9, run_bytesToString w _ 0 cap [] hl]
      rfl
  · exact run_convert_bytes_arg w 88 5 Tryz.underlying88 Tryz.underlying5 b off _ cap l rfl (fun i hi => hc i _ (by simp [List.getD, hi])) 9 Tryz.underlying9
theorem grown_refl (w : World) (r : Option Nat) : w.grownBy w r := ⟨rfl, rfl, rfl, Nat.le_refl _, fun _ _ _ => rfl⟩
theorem wpList_append_octs (w : World) {ops : Array Oper} {rest : List Oper} {o : Oper} {a : Act} {Q : Exit → Act → World → Prop} (hgd : o.guard = none) (s x : Operand)
    (ho : o.op = .call { callee := .builtin .append, args := #[s, x], argTypes := #[88, 88] }) (base : Nat) (v : Value) (l0 : List Int) (hs : a.eval s = v) (hown : OwnB w base v l0)
    (vx : Value) (lx : List Int) (hx : a.eval x = vx) (hO : Octs w vx lx) (hsz : l0.length + lx.length ≤ 140737488355328) (hbase : base ≤ w.heap.size)
    (h : ∀ v' w', OwnB w' base v' (l0 ++ lx) → w.grownBy w' v.ownBlock → wpList Tryz.prog ops Q rest (a.put o.dst v') w') : wpList Tryz.prog ops Q (o :: rest) a w := by
  obtain ⟨i0, hi, hz0, hz1, hz2⟩ := info_some Tryz.info5
  obtain ⟨hoct, hO⟩ := hO
  have fin : ∀ v' w', w'.ownsRow base 5 1 v' (l0.length + lx.length) (l0.map (Value.int .u8) ++ lx.map (Value.int .u8)) → w.grownBy w' v.ownBlock → wpList Tryz.prog ops Q rest (a.put o.dst v') w' := by
    intro v' w' h1 h2
    refine h v' w' ?_ h2
    unfold OwnB
    rw [List.length_append, List.map_append]
    exact h1
  rcases hO with ⟨rfl, ax, cap, rfl, hn⟩ | ⟨hne, b, off, cap, rfl, hcap, hm, hc⟩
  · cases ax with
    | none =>
      obtain rfl := hn rfl
      refine wpList_append_own_none hgd s x 88 ho base 5 i0 1 Tryz.underlying88 hi v l0.length (l0.map (Value.int .u8)) hs hown hx ?_
      refine fin v w ?_ (grown_refl w _)
      unfold OwnB at hown
      simpa using hown
    | some ad =>
      refine wpList_append_own w hgd s x 88 ho base 5 i0 (.int .u8 0) 1 1 Tryz.underlying88 hi hz0 hz1 hz2 rfl (by decide) v l0.length _ hs hown ad 0 cap [] hx rfl (fun j u hj => by simp at hj) (fun u hu => by cases hu) ?_ ?_ hbase ?_
      · simp only [List.length_nil] at hsz; unfold maxLen; omega
      · simp only [List.length_nil] at hsz; omega
      · intro v' w' h1 h2 _
        exact fin v' w' (by simpa using h1) h2
  · refine wpList_append_own w hgd s x 88 ho base 5 i0 (.int .u8 0) 1 1 Tryz.underlying88 hi hz0 hz1 hz2 rfl (by decide) v l0.length _ hs hown ⟨b, off, none⟩ lx.length cap (lx.map (Value.int .u8)) hx (by simp) ?_ (one_u8 lx) ?_ ?_ hbase ?_
    · intro j u hj
      rw [List.getElem?_map] at hj
      cases hx : lx[j]? with
      | none => rw [hx] at hj; cases hj
      | some y =>
        rw [hx] at hj
        simp at hj
        subst hj
        rw [Addr.add_lit]
        exact hc j y hx
    · unfold maxLen; omega
    · omega
    · intro v' w' h1 h2 _
      exact fin v' w' h1 h2
theorem wpList_append_lits (w0 : World) {ops : Array Oper} {rest : List Oper} {o : Oper} {a : Act} {Q : Exit → Act → World → Prop} (hgd : o.guard = none) (s x : Operand)
    (ho : o.op = .call { callee := .builtin .append, args := #[s, x], argTypes := #[88, 88] }) (base : Nat) (v : Value) (l0 : List Int) (hs : a.eval s = v) (hown : OwnB w0 base v l0)
    (lx : List Int) (n : Nat) (cs : Array Value) (hx : a.eval x = .slice (some ⟨w0.heap.size, 0, none⟩) n n) (hn : lx.length = n) (hcs : (lx.map (Value.int .u8)).toArray = cs) (hoct : ∀ y ∈ lx, 0 ≤ y ∧ y ≤ 255) (hsz : l0.length + lx.length ≤ 140737488355328) (hbase : base ≤ w0.heap.size)
    (h : ∀ v' w', OwnB w' base v' (l0 ++ lx) → Below base w0 w' → wpList Tryz.prog ops Q rest (a.put o.dst v') w') : wpList Tryz.prog ops Q (o :: rest) a (w0.alloc (.cells cs 5)) := by
  subst hn
  subst hcs
  refine wpList_append_octs _ hgd s x ho base v l0 hs (World.ownsRow.alloc hown _) _ lx hx (Octs.made w0 lx hoct (by unfold maxLen; omega)) hsz (by simp; omega) ?_
  intro v' w' h1 h2
  refine h v' w' h1 ?_
  exact Below.grown ((Below.refl base w0).alloc hbase _) h2 (by simp; omega) (fun k hk => (hown.lt k hk).1)
theorem own_up {w w' : World} {base n0 : Nat} {e : TypeId} {v : Value} {n : Nat} {xs : List Value} (h : w.ownsRow base e n0 v n xs) (hb : Below w.heap.size w w') : w'.ownsRow base e n0 v n xs := by
  have hlt := h.lt
  obtain ⟨h1, h2⟩ := h
  refine ⟨h1, ?_⟩
  rcases h2 with h0 | ⟨g, cap, cur, rfl, hg, hh, r⟩
  · exact .inl h0
  · exact .inr ⟨g, cap, cur, rfl, hg, (hb.block g (hlt g rfl).2).trans hh, r⟩
theorem take_snoc {A : Type} (ls : List A) (k : Nat) (d : A) (h : k < ls.length) : ls.take (k + 1) = ls.take k ++ [ls.getD k d] := by
  rw [List.take_succ_eq_append_getElem h]
  simp [List.getD, h]
end Go.Proofs.YtnchjlimkgbfpaaGreatDoor

namespace Go.Proofs.YtnchjlimkgbfpaaGreatDoor
open Go.Shelf
set_option linter.unusedVariables false
set_option maxRecDepth 100000
def Tryz.laysAI_ren : Go.Shelf.Ren := ⟨fun | 176 => 73 | 249 => 116 | 288 => 154 | 283 => 181 | 284 => 182 | 285 => 183 | 286 => 184 | 129 => 158 | 317 => 206 | 318 => 207 | 319 => 208 | 320 => 209 | 337 => 227 | 338 => 228 | n => n, fun | 37 => 88 | 2 => 2 | 3 => 3 | 53 => 156 | 4 => 4 | 9 => 9 | 171 => 267 | 0 => 0 | 173 => 269 | 212 => 289 | 51 => 214 | 5 => 5 | 20 => 20 | 213 => 290 | 46 => 213 | 232 => 315 | 233 => 316 | n => n, fun | 17 => 2 | 18 => 4 | 19 => 5 | n => n⟩
theorem Tryz.laysAI : Go.Proofs.LaysM.n176 Tryz.prog Tryz.laysAI_ren := {
  mixed := by kernel_rfl
  f129 := Tryz.func158.trans (congrArg some (by kernel_rfl))
  f176 := Tryz.func73.trans (congrArg some (by kernel_rfl))
  f249 := Tryz.func116.trans (congrArg some (by kernel_rfl))
  f283 := Tryz.func181.trans (congrArg some (by kernel_rfl))
  f284 := Tryz.func182.trans (congrArg some (by kernel_rfl))
  f285 := Tryz.func183.trans (congrArg some (by kernel_rfl))
  f286 := Tryz.func184.trans (congrArg some (by kernel_rfl))
  f288 := Tryz.func154.trans (congrArg some (by kernel_rfl))
  f317 := Tryz.func206.trans (congrArg some (by kernel_rfl))
  f318 := Tryz.func207.trans (congrArg some (by kernel_rfl))
  f319 := Tryz.func208.trans (congrArg some (by kernel_rfl))
  f320 := Tryz.func209.trans (congrArg some (by kernel_rfl))
  f337 := Tryz.func227.trans (congrArg some (by kernel_rfl))
  f338 := Tryz.func228.trans (congrArg some (by kernel_rfl))
  t0 := Tryz.underlying0
  a0 := Tryz.isAgg0
  z0 := Tryz.sizeOf0
  v0 := Tryz.zeroValue0
  t2 := Tryz.underlying2
  a2 := Tryz.isAgg2
  z2 := Tryz.sizeOf2
  v2 := Tryz.zeroValue2
  t3 := Tryz.underlying3
  a3 := Tryz.isAgg3
  z3 := Tryz.sizeOf3
  v3 := Tryz.zeroValue3
  t4 := Tryz.underlying4
  a4 := Tryz.isAgg4
  z4 := Tryz.sizeOf4
  v4 := Tryz.zeroValue4
  t5 := Tryz.underlying5
  a5 := Tryz.isAgg5
  z5 := Tryz.sizeOf5
  v5 := Tryz.zeroValue5
  t9 := Tryz.underlying9
  a9 := Tryz.isAgg9
  z9 := Tryz.sizeOf9
  v9 := Tryz.zeroValue9
  t20 := Tryz.underlying20
  a20 := Tryz.isAgg20
  z20 := Tryz.sizeOf20
  v20 := Tryz.zeroValue20
  t37 := Tryz.underlying88
  a37 := Tryz.isAgg88
  z37 := Tryz.sizeOf88
  v37 := Tryz.zeroValue88
  t46 := Tryz.underlying213
  a46 := Tryz.isAgg213
  z46 := Tryz.sizeOf213
  v46 := Tryz.zeroValue213
  t51 := Tryz.underlying214
  a51 := Tryz.isAgg214
  z51 := Tryz.sizeOf214
  v51 := Tryz.zeroValue214
  t53 := Tryz.underlying156
  a53 := Tryz.isAgg156
  z53 := Tryz.sizeOf156
  v53 := Tryz.zeroValue156
  t171 := Tryz.underlying267
  a171 := Tryz.isAgg267
  z171 := Tryz.sizeOf267
  v171 := Tryz.zeroValue267
  t173 := Tryz.underlying269
  a173 := Tryz.isAgg269
  z173 := Tryz.sizeOf269
  v173 := Tryz.zeroValue269
  t212 := Tryz.underlying289
  a212 := Tryz.isAgg289
  z212 := Tryz.sizeOf289
  v212 := Tryz.zeroValue289
  t213 := Tryz.underlying290
  a213 := Tryz.isAgg290
  z213 := Tryz.sizeOf290
  t232 := Tryz.underlying315
  a232 := Tryz.isAgg315
  z232 := Tryz.sizeOf315
  v232 := Tryz.zeroValue315
  t233 := Tryz.underlying316
  a233 := Tryz.isAgg316
  z233 := Tryz.sizeOf316
  v233 := Tryz.zeroValue316
  g17 := by kernel_rfl
  g18 := by kernel_rfl
  g19 := by kernel_rfl
  i0 := by kernel_rfl
  i2 := by kernel_rfl
  i3 := by kernel_rfl
  i4 := by kernel_rfl
  i5 := by kernel_rfl
  i9 := by kernel_rfl
  i20 := by kernel_rfl
  i37 := by kernel_rfl
  i46 := by kernel_rfl
  i51 := by kernel_rfl
  i53 := by kernel_rfl
  i171 := by kernel_rfl
  i173 := by kernel_rfl
  i212 := by kernel_rfl
  i232 := by kernel_rfl
  i233 := by kernel_rfl
  m17 := by kernel_rfl
  m18 := by kernel_rfl
  m19 := by kernel_rfl }
def Tryz.laysAt_ren : Go.Shelf.Ren := ⟨fun | 172 => 86 | 244 => 128 | 245 => 129 | 247 => 160 | 279 => 161 | 280 => 162 | 281 => 163 | 282 => 164 | 287 => 188 | 316 => 189 | 171 => 191 | 205 => 190 | 321 => 212 | 322 => 213 | 243 => 214 | 246 => 229 | 283 => 181 | 284 => 182 | 285 => 183 | 286 => 184 | 129 => 158 | 317 => 206 | 318 => 207 | 319 => 208 | 320 => 209 | 337 => 227 | 338 => 228 | n => n, fun | 9 => 9 | 3 => 3 | 75 => 163 | 76 => 164 | 4 => 4 | 5 => 5 | 167 => 244 | 37 => 88 | 0 => 0 | 85 => 245 | 2 => 2 | 168 => 247 | 53 => 156 | 175 => 272 | 46 => 213 | 210 => 276 | 127 => 294 | 145 => 297 | 143 => 295 | 21 => 21 | 171 => 267 | 173 => 269 | 212 => 289 | 51 => 214 | 20 => 20 | 213 => 290 | 232 => 315 | 233 => 316 | 80 => 298 | n => n, fun | 15 => 0 | 16 => 1 | 17 => 2 | 18 => 4 | 19 => 5 | n => n⟩
theorem Tryz.laysAt : Go.Proofs.LaysC.n172 Tryz.prog Tryz.laysAt_ren := {
  mixed := by kernel_rfl
  f129 := Tryz.func158.trans (congrArg some (by kernel_rfl))
  f171 := Tryz.func191.trans (congrArg some (by kernel_rfl))
  f172 := Tryz.func86.trans (congrArg some (by kernel_rfl))
  f205 := Tryz.func190.trans (congrArg some (by kernel_rfl))
  f243 := Tryz.func214.trans (congrArg some (by kernel_rfl))
  f244 := Tryz.func128.trans (congrArg some (by kernel_rfl))
  f245 := Tryz.func129.trans (congrArg some (by kernel_rfl))
  f246 := Tryz.func229.trans (congrArg some (by kernel_rfl))
  f247 := Tryz.func160.trans (congrArg some (by kernel_rfl))
  f279 := Tryz.func161.trans (congrArg some (by kernel_rfl))
  f280 := Tryz.func162.trans (congrArg some (by kernel_rfl))
  f281 := Tryz.func163.trans (congrArg some (by kernel_rfl))
  f282 := Tryz.func164.trans (congrArg some (by kernel_rfl))
  f283 := Tryz.func181.trans (congrArg some (by kernel_rfl))
  f284 := Tryz.func182.trans (congrArg some (by kernel_rfl))
  f285 := Tryz.func183.trans (congrArg some (by kernel_rfl))
  f286 := Tryz.func184.trans (congrArg some (by kernel_rfl))
  f287 := Tryz.func188.trans (congrArg some (by kernel_rfl))
  f316 := Tryz.func189.trans (congrArg some (by kernel_rfl))
  f317 := Tryz.func206.trans (congrArg some (by kernel_rfl))
  f318 := Tryz.func207.trans (congrArg some (by kernel_rfl))
  f319 := Tryz.func208.trans (congrArg some (by kernel_rfl))
  f320 := Tryz.func209.trans (congrArg some (by kernel_rfl))
  f321 := Tryz.func212.trans (congrArg some (by kernel_rfl))
  f322 := Tryz.func213.trans (congrArg some (by kernel_rfl))
  f337 := Tryz.func227.trans (congrArg some (by kernel_rfl))
  f338 := Tryz.func228.trans (congrArg some (by kernel_rfl))
  t0 := Tryz.underlying0
  a0 := Tryz.isAgg0
  z0 := Tryz.sizeOf0
  v0 := Tryz.zeroValue0
  t2 := Tryz.underlying2
  a2 := Tryz.isAgg2
  z2 := Tryz.sizeOf2
  v2 := Tryz.zeroValue2
  t3 := Tryz.underlying3
  a3 := Tryz.isAgg3
  z3 := Tryz.sizeOf3
  v3 := Tryz.zeroValue3
  t4 := Tryz.underlying4
  a4 := Tryz.isAgg4
  z4 := Tryz.sizeOf4
  v4 := Tryz.zeroValue4
  t5 := Tryz.underlying5
  a5 := Tryz.isAgg5
  z5 := Tryz.sizeOf5
  v5 := Tryz.zeroValue5
  t9 := Tryz.underlying9
  a9 := Tryz.isAgg9
  z9 := Tryz.sizeOf9
  v9 := Tryz.zeroValue9
  t20 := Tryz.underlying20
  a20 := Tryz.isAgg20
  z20 := Tryz.sizeOf20
  v20 := Tryz.zeroValue20
  t21 := Tryz.underlying21
  a21 := Tryz.isAgg21
  z21 := Tryz.sizeOf21
  v21 := Tryz.zeroValue21
  t37 := Tryz.underlying88
  a37 := Tryz.isAgg88
  z37 := Tryz.sizeOf88
  v37 := Tryz.zeroValue88
  t46 := Tryz.underlying213
  a46 := Tryz.isAgg213
  z46 := Tryz.sizeOf213
  v46 := Tryz.zeroValue213
  t51 := Tryz.underlying214
  a51 := Tryz.isAgg214
  z51 := Tryz.sizeOf214
  v51 := Tryz.zeroValue214
  t53 := Tryz.underlying156
  a53 := Tryz.isAgg156
  z53 := Tryz.sizeOf156
  v53 := Tryz.zeroValue156
  t75 := Tryz.underlying163
  a75 := Tryz.isAgg163
  z75 := Tryz.sizeOf163
  v75 := Tryz.zeroValue163
  t76 := Tryz.underlying164
  a76 := Tryz.isAgg164
  z76 := Tryz.sizeOf164
  v76 := Tryz.zeroValue164
  t85 := Tryz.underlying245
  a85 := Tryz.isAgg245
  z85 := Tryz.sizeOf245
  v85 := Tryz.zeroValue245
  t127 := Tryz.underlying294
  a127 := Tryz.isAgg294
  z127 := Tryz.sizeOf294
  v127 := Tryz.zeroValue294
  t143 := Tryz.underlying295
  a143 := Tryz.isAgg295
  z143 := Tryz.sizeOf295
  v143 := Tryz.zeroValue295
  t145 := Tryz.underlying297
  a145 := Tryz.isAgg297
  z145 := Tryz.sizeOf297
  v145 := Tryz.zeroValue297
  t167 := Tryz.underlying244
  a167 := Tryz.isAgg244
  z167 := Tryz.sizeOf244
  v167 := Tryz.zeroValue244
  t168 := Tryz.underlying247
  a168 := Tryz.isAgg247
  z168 := Tryz.sizeOf247
  v168 := Tryz.zeroValue247
  t171 := Tryz.underlying267
  a171 := Tryz.isAgg267
  z171 := Tryz.sizeOf267
  v171 := Tryz.zeroValue267
  t173 := Tryz.underlying269
  a173 := Tryz.isAgg269
  z173 := Tryz.sizeOf269
  v173 := Tryz.zeroValue269
  t175 := Tryz.underlying272
  a175 := Tryz.isAgg272
  z175 := Tryz.sizeOf272
  v175 := Tryz.zeroValue272
  t210 := Tryz.underlying276
  a210 := Tryz.isAgg276
  z210 := Tryz.sizeOf276
  v210 := Tryz.zeroValue276
  t212 := Tryz.underlying289
  a212 := Tryz.isAgg289
  z212 := Tryz.sizeOf289
  v212 := Tryz.zeroValue289
  t213 := Tryz.underlying290
  a213 := Tryz.isAgg290
  z213 := Tryz.sizeOf290
  t232 := Tryz.underlying315
  a232 := Tryz.isAgg315
  z232 := Tryz.sizeOf315
  v232 := Tryz.zeroValue315
  t233 := Tryz.underlying316
  a233 := Tryz.isAgg316
  z233 := Tryz.sizeOf316
  v233 := Tryz.zeroValue316
  g15 := by kernel_rfl
  g16 := by kernel_rfl
  g17 := by kernel_rfl
  g18 := by kernel_rfl
  g19 := by kernel_rfl
  t80 := Tryz.underlying298
  a80 := Tryz.isAgg298
  z80 := Tryz.sizeOf298
  v80 := Tryz.zeroValue298
  i0 := by kernel_rfl
  i2 := by kernel_rfl
  i3 := by kernel_rfl
  i4 := by kernel_rfl
  i5 := by kernel_rfl
  i9 := by kernel_rfl
  i20 := by kernel_rfl
  i21 := by kernel_rfl
  i37 := by kernel_rfl
  i46 := by kernel_rfl
  i51 := by kernel_rfl
  i53 := by kernel_rfl
  i75 := by kernel_rfl
  i76 := by kernel_rfl
  i80 := by kernel_rfl
  i85 := by kernel_rfl
  i127 := by kernel_rfl
  i143 := by kernel_rfl
  i145 := by kernel_rfl
  i167 := by kernel_rfl
  i168 := by kernel_rfl
  i171 := by kernel_rfl
  i173 := by kernel_rfl
  i175 := by kernel_rfl
  i210 := by kernel_rfl
  i212 := by kernel_rfl
  i232 := by kernel_rfl
  i233 := by kernel_rfl
  m15 := by kernel_rfl
  m16 := by kernel_rfl
  m17 := by kernel_rfl
  m18 := by kernel_rfl
  m19 := by kernel_rfl
  c0 := by kernel_rfl
  c2 := by kernel_rfl
  c3 := by kernel_rfl
  c4 := by kernel_rfl
  c5 := by kernel_rfl
  c9 := by kernel_rfl
  c20 := by kernel_rfl
  c21 := by kernel_rfl
  c37 := by kernel_rfl
  c46 := by kernel_rfl
  c51 := by kernel_rfl
  c53 := by kernel_rfl
  c75 := by kernel_rfl
  c76 := by kernel_rfl
  c80 := by kernel_rfl
  c85 := by kernel_rfl
  c127 := by kernel_rfl
  c143 := by kernel_rfl
  c145 := by kernel_rfl
  c167 := by kernel_rfl
  c168 := by kernel_rfl
  c171 := by kernel_rfl
  c173 := by kernel_rfl
  c175 := by kernel_rfl
  c210 := by kernel_rfl
  c212 := by kernel_rfl
  c213 := by kernel_rfl
  c232 := by kernel_rfl
  c233 := by kernel_rfl }
end Go.Proofs.YtnchjlimkgbfpaaGreatDoor

namespace Go.Proofs.YtnchjlimkgbfpaaGreatDoor
set_option linter.unusedVariables false
set_option maxRecDepth 20000
def digs (n : Nat) : List Int := if h : n = 0 then [] else digs (n / 10) ++ [48 + ((n % 10 : Nat) : Int)]
termination_by n
decreasing_by omega
theorem digs_zero : digs 0 = [] := by unfold digs; simp
theorem digs_pos {n : Nat} (h : 0 < n) : digs n = digs (n / 10) ++ [48 + ((n % 10 : Nat) : Int)] := by
  conv => lhs; unfold digs
  rw [dif_neg (by omega)]
def isDig (x : Int) : Bool := decide (48 ≤ x) && decide (x ≤ 57)
theorem isDig_iff {x : Int} : isDig x = true ↔ 48 ≤ x ∧ x ≤ 57 := by simp [isDig]
theorem digs_dig : ∀ (k n : Nat), n ≤ k → ∀ x ∈ digs n, isDig x = true
  | k, 0, _, x, hx => by rw [digs_zero] at hx; cases hx
  | 0, n + 1, h, x, hx => by omega
  | k + 1, n + 1, h, x, hx => by
    rw [digs_pos (by omega), List.mem_append, List.mem_singleton] at hx
    rcases hx with hx | rfl
    · exact digs_dig k ((n + 1) / 10) (by omega) x hx
    · rw [isDig_iff]; omega
def valF (l : List Int) (a : Int) : Int := l.foldl (fun n x => 10 * n + (x - 48)) a
theorem valF_append (a b : List Int) (n : Int) : valF (a ++ b) n = valF b (valF a n) := by simp [valF, List.foldl_append]
theorem val_digs : ∀ (k n : Nat), n ≤ k → valF (digs n) 0 = (n : Int)
  | k, 0, _ => by rw [digs_zero]; rfl
  | 0, n + 1, h => by omega
  | k + 1, n + 1, h => by
    rw [digs_pos (by omega), valF_append, val_digs k ((n + 1) / 10) (by omega)]
    simp only [valF, List.foldl_cons, List.foldl_nil]
    omega
theorem digs_ne {n : Nat} (h : 0 < n) : digs n ≠ [] := by rw [digs_pos h]; simp
theorem digs_len : ∀ (d n : Nat), n < 10 ^ d → (digs n).length ≤ d
  | 0, n, h => by
    have : n = 0 := by simp at h; omega
    subst this
    rw [digs_zero]
    simp
  | d + 1, n, h => by
    by_cases hn : n = 0
    · subst hn; rw [digs_zero]; simp
    · rw [digs_pos (by omega), List.length_append, List.length_singleton]
      have : n / 10 < 10 ^ d := by
        rw [Nat.pow_succ] at h
        omega
      have := digs_len d (n / 10) this
      omega
theorem val_bound : ∀ (l : List Int) (a : Int) (d : Nat), (∀ x ∈ l, isDig x = true) → 0 ≤ a → a < (10 : Int) ^ d → 0 ≤ valF l a ∧ valF l a < (10 : Int) ^ (d + l.length)
  | [], a, d, _, h0, h1 => ⟨h0, by simpa [valF] using h1⟩
  | x :: l, a, d, hl, h0, h1 => by
    have hx := isDig_iff.1 (hl x List.mem_cons_self)
    have e : valF (x :: l) a = valF l (10 * a + (x - 48)) := rfl
    rw [e]
    have h2 : 10 * a + (x - 48) < (10 : Int) ^ (d + 1) := by
      rw [Int.pow_succ]
      omega
    have := val_bound l (10 * a + (x - 48)) (d + 1) (fun y hy => hl y (List.mem_cons_of_mem _ hy)) (by omega) h2
    rw [show d + (x :: l).length = d + 1 + l.length by simp; omega]
    exact this
theorem digs_val : ∀ (l : List Int) (a : Nat), (∀ x ∈ l, isDig x = true) → 0 < a → digs (valF l (a : Int)).toNat = digs a ++ l
  | [], a, _, _ => by simp [valF]
  | x :: l, a, hl, ha => by
    have hx := isDig_iff.1 (hl x List.mem_cons_self)
    have e : valF (x :: l) (a : Int) = valF l ((10 * a + (x - 48).toNat : Nat) : Int) := by
      show valF l (10 * (a : Int) + (x - 48)) = _
      congr 1
      omega
    rw [e, digs_val l (10 * a + (x - 48).toNat) (fun y hy => hl y (List.mem_cons_of_mem _ hy)) (by omega), digs_pos (by omega)]
    rw [show (10 * a + (x - 48).toNat) / 10 = a by omega, show 48 + (((10 * a + (x - 48).toNat) % 10 : Nat) : Int) = x by omega]
    simp
theorem digs_of {x : Int} {l : List Int} (hx : 49 ≤ x ∧ x ≤ 57) (hl : ∀ y ∈ l, isDig y = true) : digs (valF (x :: l) 0).toNat = x :: l := by
  have e : valF (x :: l) 0 = valF l ((x - 48).toNat : Int) := by
    show valF l (10 * 0 + (x - 48)) = _
    congr 1
    omega
  rw [e, digs_val l (x - 48).toNat hl (by omega), digs_pos (by omega)]
  rw [show (x - 48).toNat / 10 = 0 by omega, digs_zero, show 48 + (((x - 48).toNat % 10 : Nat) : Int) = x by omega]
  rfl
theorem digs_head : ∀ (k n : Nat), n ≤ k → 0 < n → ∃ x l, digs n = x :: l ∧ 49 ≤ x ∧ x ≤ 57
  | 0, n, h, h0 => by omega
  | k + 1, n, h, h0 => by
    rw [digs_pos h0]
    by_cases hn : n / 10 = 0
    · rw [hn, digs_zero]
      exact ⟨_, [], rfl, by omega, by omega⟩
    · obtain ⟨x, l, e, h1⟩ := digs_head k (n / 10) (by omega) (by omega)
      rw [e]
      exact ⟨x, l ++ [48 + ((n % 10 : Nat) : Int)], rfl, h1⟩
def kindOk (k : Int) : Bool := decide (k = 109) || (decide (k = 108) || decide (k = 116))
def idOk (id : Int) : Bool := decide (1 ≤ id) && decide (id ≤ 2147483647)
def nameN (k id : Int) : List Int × Int := if kindOk k = false then ([], 22) else if idOk id = false then ([], 4) else (k :: digs id.toNat, 0)
def parseN (s : List Int) : Option (Int × Int) :=
  match s with
  | [] => none
  | k :: l => if kindOk k = true ∧ l ≠ [] ∧ l.length ≤ 10 ∧ l.all isDig = true ∧ idOk (valF l 0) = true ∧ digs (valF l 0).toNat = l then some (k, valF l 0) else none
theorem parse_name {k id : Int} (hk : kindOk k = true) (hi : idOk id = true) : parseN (k :: digs id.toNat) = some (k, id) := by
  have hi' : 1 ≤ id ∧ id ≤ 2147483647 := by simpa [idOk] using hi
  have hv : valF (digs id.toNat) 0 = id := by rw [val_digs id.toNat id.toNat (Nat.le_refl _)]; omega
  unfold parseN
  simp only
  rw [if_pos ⟨hk, digs_ne (by omega), digs_len 10 _ (by omega), List.all_eq_true.2 (digs_dig _ _ (Nat.le_refl _)), by rw [hv]; exact hi, by rw [hv]⟩, hv]
theorem name_parse {s : List Int} {k id : Int} (h : parseN s = some (k, id)) : kindOk k = true ∧ idOk id = true ∧ s = k :: digs id.toNat := by
  unfold parseN at h
  cases s with
  | nil => cases h
  | cons a l =>
    simp only at h
    split at h
    · rename_i q
      simp only [Option.some.injEq, Prod.mk.injEq] at h
      obtain ⟨rfl, rfl⟩ := h
      exact ⟨q.1, q.2.2.2.2.1, by rw [q.2.2.2.2.2]⟩
    · cases h
theorem parse_first (k x : Int) (l : List Int) : parseN (k :: x :: l) = if kindOk k = true ∧ l.length ≤ 9 ∧ (49 ≤ x ∧ x ≤ 57) ∧ l.all isDig = true ∧ valF (x :: l) 0 ≤ 2147483647 then some (k, valF (x :: l) 0) else none := by
  unfold parseN
  simp only
  by_cases hd : (x :: l).all isDig = true
  · have hx := isDig_iff.1 (List.all_eq_true.1 hd x List.mem_cons_self)
    have hl : ∀ y ∈ l, isDig y = true := fun y hy => List.all_eq_true.1 hd y (List.mem_cons_of_mem _ hy)
    by_cases h0 : 49 ≤ x
    · have e := digs_of ⟨h0, hx.2⟩ hl
      have hpos : 1 ≤ valF (x :: l) 0 := by
        rcases Int.lt_or_le (valF (x :: l) 0) 1 with q | q
        · have : (valF (x :: l) 0).toNat = 0 := by omega
          rw [this, digs_zero] at e
          cases e
        · exact q
      congr 1
      refine propext ⟨fun q => ?_, fun q => ?_⟩
      · have := q.2.2.2.2.1
        simp only [idOk, Bool.and_eq_true, decide_eq_true_eq] at this
        exact ⟨q.1, by have := q.2.2.1; simp at this; omega, ⟨h0, hx.2⟩, List.all_eq_true.2 hl, this.2⟩
      · exact ⟨q.1, by simp, by have := q.2.1; simp; omega, hd, by simp only [idOk, Bool.and_eq_true, decide_eq_true_eq]; exact ⟨hpos, q.2.2.2.2⟩, e⟩
    · rw [if_neg, if_neg]
      · intro q; exact h0 q.2.2.1.1
      · intro q
        have h1 := q.2.2.2.2.1
        simp only [idOk, Bool.and_eq_true, decide_eq_true_eq] at h1
        obtain ⟨y, m, e, h2⟩ := digs_head _ (valF (x :: l) 0).toNat (Nat.le_refl _) (by omega)
        rw [q.2.2.2.2.2] at e
        injection e with e1 _
        omega
  · rw [if_neg (fun q => hd q.2.2.2.1), if_neg]
    intro q
    refine hd (List.all_eq_true.2 fun y hy => ?_)
    rcases List.mem_cons.1 hy with rfl | hy
    · rw [isDig_iff]; omega
    · exact List.all_eq_true.1 q.2.2.2.1 y hy
end Go.Proofs.YtnchjlimkgbfpaaGreatDoor
