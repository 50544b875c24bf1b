/- Octets, rows, blocks, growing worlds. -/
import Derived.Test.YtpjmieiajhhbaaaDoorProg
import Derived.WalkKit
import Derived.WalkLawsBesides
import Derived.WalkSpells
import Derived.KernelRfl
import Derived.Deep.QuietTactic
import Derived.BigQuiet
import Derived.BigRegion
import Derived.BigCall
import Derived.Deep.LoopGhost
import Derived.Deep.RegionWith
import Derived.Laws.BytesArg
import Derived.Laws.IdiomStrings
import Derived.Laws.AppendOwnNone
import Derived.Handy
import Derived.Deep.DeepAppendWide
import Derived.Deep.AppendLies
import Derived.Deep.RegionHeld3
import Derived.Deep.OwnRows

/- Slices of octets and texts as plain lists of numbers from 0 to 255; append onto a slice of the call's own; worlds that only grow. No Go function is walked here. -/
namespace Go.Proofs.YtpjmieiajhhbaaaDoor
open Go.RowKit
set_option linter.unusedVariables false

theorem Tryd.info5 : (Tryd.prog.info? 5).map (fun i => (i.zero, i.size, i.bytes)) = some (some (.int .u8 0), 1, 1) := by kernel_rfl

theorem info_some {P : Program} {t : TypeId} {z : Value} {s b : Nat} (h : (P.info? t).map (fun i => (i.zero, i.size, i.bytes)) = some (some z, s, b)) :
    ∃ i, P.info? t = some i ∧ i.zero = some z ∧ i.size = s ∧ i.bytes = b := by
  cases e : P.info? t with
  | none => rw [e] at h; cases h
  | some i =>
    rw [e] at h
    simp at h
    exact ⟨i, rfl, h.1, h.2.1, h.2.2⟩

theorem ret_bool {a b : Bool} (h : a = b) : Ending.returned (.bool a) = .returned (.bool b) := by rw [h]
theorem ret_int {k : IntKind} {a b : Int} (h : a = b) : Ending.returned (.int k a) = .returned (.int k b) := by rw [h]

theorem up_drewN (w : World) (d : Nat) : Below w.heap.size w (w.drewN d) := ⟨rfl, rfl, rfl, Nat.le_refl _, fun _ _ => rfl⟩
theorem up_alloc (w : World) (o : Obj) : Below w.heap.size w (w.alloc o) := (Below.refl _ _).alloc (Nat.le_refl _) _
theorem up_trans {a b c : World} (h : Below a.heap.size a b) (k : Below b.heap.size b c) : Below a.heap.size a c := h.trans (k.mono h.size)

theorem up_al {a b : World} (h : Below a.heap.size a b) (o : Obj) : Below a.heap.size a (b.alloc o) := h.alloc h.size o
theorem up_dr {a b : World} (h : Below a.heap.size a b) : Below a.heap.size a b.drew := h.drew

theorem cells_new (w : World) (l more : List Value) (t : TypeId) (j : Nat) (u : Value) (h : l[j]? = some u) :
    (w.alloc (.cells (l ++ more).toArray t)).cell? ((⟨w.heap.size, 0, none⟩ : Addr).add j) = some u := by
  have hj : j < l.length := by
    rcases Nat.lt_or_ge j l.length with h1 | h1
    · exact h1
    · rw [List.getElem?_eq_none h1] at h; cases h
  have e : (l ++ more)[j]? = some u := by rw [List.getElem?_append_left hj]; exact h
  have ea : (⟨w.heap.size, 0, none⟩ : Addr).add j = ⟨w.heap.size, j, none⟩ := by rw [Addr.add_lit, Nat.zero_add]
  rw [ea, World.cell?_alloc_new]
  simpa using e

theorem one_u8 (l : List Int) : ∀ u ∈ l.map (Value.int .u8), u.oneCell' = true := by
  intro u hu
  obtain ⟨x, _, rfl⟩ := List.mem_map.1 hu
  rfl

/-- A text, octet by octet. -/
def nums (s : ByteArray) : List Int := s.data.toList.map fun b => (b.toNat : Int)

theorem nums_octet (s : ByteArray) : ∀ x ∈ nums s, 0 ≤ x ∧ x ≤ 255 := by
  intro x hx
  obtain ⟨b, _, rfl⟩ := List.mem_map.1 hx
  have := b.toNat_lt
  omega

theorem str_nums (s : ByteArray) : strOfNums (nums s) = s := by
  obtain ⟨⟨l⟩⟩ := s
  simp only [strOfNums, nums, List.map_map]
  have e : l.map ((fun n : Int => UInt8.ofNat n.toNat) ∘ fun b : UInt8 => (b.toNat : Int)) = l := by
    refine (List.map_congr_left (g := id) fun x _ => ?_).trans (by simp)
    simp
  rw [e]

theorem nums_str (l : List Int) (h : ∀ x ∈ l, 0 ≤ x ∧ x ≤ 255) : nums (strOfNums l) = l := by
  simp only [nums, strOfNums, List.map_map]
  refine (List.map_congr_left (g := id) fun x hx => ?_).trans (by simp)
  have := h x hx
  simp only [Function.comp, UInt8.toNat_ofNat', id]
  omega

theorem nums_length (s : ByteArray) : (nums s).length = s.size := by
  unfold nums ByteArray.size
  rw [List.length_map, Array.length_toList]

theorem octet_inj (x y : Int) (hx : 0 ≤ x ∧ x ≤ 255) (hy : 0 ≤ y ∧ y ≤ 255) (h : UInt8.ofNat x.toNat = UInt8.ofNat y.toNat) : x = y := by
  have := congrArg UInt8.toNat h
  simp at this
  omega

theorem str_inj (l1 l2 : List Int) (h1 : ∀ x ∈ l1, 0 ≤ x ∧ x ≤ 255) (h2 : ∀ x ∈ l2, 0 ≤ x ∧ x ≤ 255) (h : strOfNums l1 = strOfNums l2) : l1 = l2 := by
  rw [← nums_str l1 h1, ← nums_str l2 h2, h]

theorem str_list (l : List Int) : (strOfNums l).toList = l.map fun n => UInt8.ofNat n.toNat := by
  simp [strOfNums]

theorem str_eq (l1 l2 : List Int) (h1 : ∀ x ∈ l1, 0 ≤ x ∧ x ≤ 255) (h2 : ∀ x ∈ l2, 0 ≤ x ∧ x ≤ 255) : ((strOfNums l1).toList == (strOfNums l2).toList) = decide (l1 = l2) := by
  by_cases h : l1 = l2
  · subst h; simp
  · rw [decide_eq_false h, beq_eq_false_iff_ne]
    intro e
    apply h
    apply str_inj l1 l2 h1 h2
    rw [str_list, str_list] at e
    simp [strOfNums, e]

theorem str_cut (l : List Int) (a b : Nat) : (strOfNums l).extract a b = strOfNums ((l.drop a).take (b - a)) := by
  simp only [strOfNums]
  rw [ByteArray.extract_mk]
  simp [List.map_drop, List.map_take]

theorem str_cat (l1 l2 : List Int) : strOfNums l1 ++ strOfNums l2 = strOfNums (l1 ++ l2) := by
  apply ByteArray.ext
  simp [strOfNums]

/-- The order of texts, octet by octet. -/
def lessL : List Int → List Int → Bool
  | _, [] => false
  | [], _ :: _ => true
  | x :: r, y :: q => decide (x < y) || (decide (x = y) && lessL r q)

theorem str_less : ∀ (l1 l2 : List Int), (∀ x ∈ l1, 0 ≤ x ∧ x ≤ 255) → (∀ x ∈ l2, 0 ≤ x ∧ x ≤ 255) → Op.bytesLess (strOfNums l1).toList (strOfNums l2).toList = lessL l1 l2 := by
  intro l1 l2
  rw [str_list, str_list]
  induction l1 generalizing l2 with
  | nil => intro _ _; cases l2 <;> simp [Op.bytesLess, lessL]
  | cons x r ih =>
    intro h1 h2
    cases l2 with
    | nil => simp [Op.bytesLess, lessL]
    | cons y q =>
      have hx := h1 x (by simp)
      have hy := h2 y (by simp)
      have e := ih q (fun z hz => h1 z (by simp [hz])) (fun z hz => h2 z (by simp [hz]))
      simp only [List.map_cons, Op.bytesLess, lessL]
      rw [e]
      have a1 : decide (UInt8.ofNat x.toNat < UInt8.ofNat y.toNat) = decide (x < y) := by
        rw [decide_eq_decide, UInt8.lt_iff_toNat_lt]
        simp
        omega
      have a2 : (UInt8.ofNat x.toNat == UInt8.ofNat y.toNat) = decide (x = y) := by
        by_cases c : x = y
        · subst c; simp
        · rw [decide_eq_false c, beq_eq_false_iff_ne]
          exact fun h => c (octet_inj x y hx hy h)
      rw [a1, a2]

/-- The slice v holds the octets l in w. -/
def Octs (w : World) (v : Value) (l : List Int) : Prop :=
  (∀ x ∈ l, 0 ≤ x ∧ x ≤ 255) ∧
  ((l = [] ∧ ∃ a cap, v = .slice a 0 cap ∧ (a = none → cap = 0)) ∨
   (l ≠ [] ∧ ∃ b off cap, v = .slice (some ⟨b, off, none⟩) l.length cap ∧ l.length ≤ cap ∧ cap ≤ maxLen ∧ ∀ j x, l[j]? = some x → w.cell? ⟨b, off + j, none⟩ = some (.int .u8 x)))

theorem Octs.moved {w w' : World} {v : Value} {l : List Int} (h : Octs w v l) (e : ∀ b off x, l ≠ [] → v.ownBlock = some b → w.cell? ⟨b, off, none⟩ = some x → w'.cell? ⟨b, off, none⟩ = some x) : Octs w' v l := by
  obtain ⟨hx, hv⟩ := h
  refine ⟨hx, ?_⟩
  rcases hv with h0 | ⟨hn, b, off, cap, rfl, hc, hm, hj⟩
  · exact .inl h0
  · exact .inr ⟨hn, b, off, cap, rfl, hc, hm, fun j x hx => e b (off + j) _ hn rfl (hj j x hx)⟩

theorem Octs.up {w w' : World} {v : Value} {l : List Int} (h : Octs w v l) (hb : Below w.heap.size w w') : Octs w' v l :=
  h.moved fun b off x hn hv hc => (hb.cell (p := ⟨b, off, none⟩) (World.block_lt_of_cell? w ⟨b, off, none⟩ hc)).trans hc

/-- The slice v lies in memory of the call's own (no block below base) and holds the octets l in w. -/
def OwnB (w : World) (base : Nat) (v : Value) (l : List Int) : Prop := w.ownsRow base 5 1 v l.length (l.map (Value.int .u8))

theorem OwnB.nil (w : World) (base : Nat) : OwnB w base (.slice none 0 0) [] := World.ownsRow_nil _ _ _ _

/-- What the call itself made, read as octets. -/
theorem Octs.own {w : World} {base : Nat} {v : Value} {l : List Int} (h : OwnB w base v l) (hx : ∀ x ∈ l, 0 ≤ x ∧ x ≤ 255) : Octs w v l := by
  obtain ⟨_, h2⟩ := h
  refine ⟨hx, ?_⟩
  rcases h2 with ⟨rfl, h0⟩ | ⟨g, cap, cur, rfl, hg, hh, hn, hm, hs, ht⟩
  · exact .inl ⟨List.length_eq_zero_iff.1 h0, _, _, rfl, fun _ => rfl⟩
  · by_cases hl : l = []
    · subst hl
      exact .inl ⟨rfl, _, _, rfl, fun h => by cases h⟩
    · refine .inr ⟨hl, g, 0, cap, rfl, hn, hm, fun j x hj => ?_⟩
      have hj' : (l.map (Value.int .u8))[j]? = some (.int .u8 x) := by simp [hj]
      rw [← ht, List.getElem?_take] at hj'
      split at hj'
      · simp only [World.cell?, hh, Nat.zero_add]
        simpa using hj'
      · cases hj'

theorem Octs.made (w : World) (l : List Int) (hx : ∀ x ∈ l, 0 ≤ x ∧ x ≤ 255) (hm : l.length ≤ maxLen) : Octs (w.alloc (.cells (l.map (Value.int .u8)).toArray 5)) (.slice (some ⟨w.heap.size, 0, none⟩) l.length l.length) l := by
  refine ⟨hx, ?_⟩
  by_cases hl : l = []
  · subst hl; exact .inl ⟨rfl, _, _, rfl, fun h => by cases h⟩
  · refine .inr ⟨hl, w.heap.size, 0, l.length, rfl, Nat.le_refl _, hm, fun j x hj => ?_⟩
    have := cells_new w (l.map (Value.int .u8)) [] 5 j (.int .u8 x) (by simp [hj])
    simpa [Addr.add_lit] using this

theorem run_convert_octs (l : List Int) (v : Value) (w : World) (hv : Octs w v l) : (convert 64 9 v).run Tryd.prog w = .ok (.string (strOfNums l)) w := by
  obtain ⟨hx, hv⟩ := hv
  rcases hv with ⟨rfl, a, cap, rfl, _⟩ | ⟨hne, b, off, cap, rfl, hcap, hm, hc⟩
  · cases a with
    | none => exact run_convert_bytes_nil w 64 5 Tryd.underlying64 Tryd.underlying5 0 cap 9 Tryd.underlying9
    | some a =>
      have hl : (loadCells a 0).run Tryd.prog w = .ok (([] : List Int).map (Value.int .u8)).toArray w := by
        have := run_loadCells_list (P := Tryd.prog) w a [] (fun j v hj => by simp at hj)
        simpa using this
      rw [run_convert_bytes_string w 64 9 5 _ 0 cap Tryd.underlying64 Tryd.underlying5 Tryd.underlying9, run_bytesToString w _ 0 cap [] hl]
      rfl
  · exact run_convert_bytes_arg w 64 5 Tryd.underlying64 Tryd.underlying5 b off _ cap l rfl (fun i hi => hc i _ (by simp [List.getD, hi])) 9 Tryd.underlying9

theorem grown_refl (w : World) (r : Option Nat) : w.grownBy w r := ⟨rfl, rfl, rfl, Nat.le_refl _, fun _ _ _ => rfl⟩

theorem wpList_append_octs (w : World) {ops : Array Oper} {rest : List Oper} {o : Oper} {a : Act} {Q : Exit → Act → World → Prop} (hgd : o.guard = none) (s x : Operand)
    (ho : o.op = .call { callee := .builtin .append, args := #[s, x], argTypes := #[64, 64] }) (base : Nat) (v : Value) (l0 : List Int) (hs : a.eval s = v) (hown : OwnB w base v l0)
    (vx : Value) (lx : List Int) (hx : a.eval x = vx) (hO : Octs w vx lx) (hsz : l0.length + lx.length ≤ 140737488355328) (hbase : base ≤ w.heap.size)
    (h : ∀ v' w', OwnB w' base v' (l0 ++ lx) → w.grownBy w' v.ownBlock → wpList Tryd.prog ops Q rest (a.put o.dst v') w') : wpList Tryd.prog ops Q (o :: rest) a w := by
  obtain ⟨i0, hi, hz0, hz1, hz2⟩ := info_some Tryd.info5
  obtain ⟨hoct, hO⟩ := hO
  have fin : ∀ v' w', w'.ownsRow base 5 1 v' (l0.length + lx.length) (l0.map (Value.int .u8) ++ lx.map (Value.int .u8)) → w.grownBy w' v.ownBlock → wpList Tryd.prog ops Q rest (a.put o.dst v') w' := by
    intro v' w' h1 h2
    refine h v' w' ?_ h2
    unfold OwnB
    rw [List.length_append, List.map_append]
    exact h1
  rcases hO with ⟨rfl, ax, cap, rfl, hn⟩ | ⟨hne, b, off, cap, rfl, hcap, hm, hc⟩
  · cases ax with
    | none =>
      obtain rfl := hn rfl
      refine wpList_append_own_none hgd s x 64 ho base 5 i0 1 Tryd.underlying64 hi v l0.length (l0.map (Value.int .u8)) hs hown hx ?_
      refine fin v w ?_ (grown_refl w _)
      unfold OwnB at hown
      simpa using hown
    | some ad =>
      refine wpList_append_own w hgd s x 64 ho base 5 i0 (.int .u8 0) 1 1 Tryd.underlying64 hi hz0 hz1 hz2 rfl (by decide) v l0.length _ hs hown ad 0 cap [] hx rfl (fun j u hj => by simp at hj) (fun u hu => by cases hu) ?_ ?_ hbase ?_
      · simp only [List.length_nil] at hsz; unfold maxLen; omega
      · simp only [List.length_nil] at hsz; omega
      · intro v' w' h1 h2 _
        exact fin v' w' (by simpa using h1) h2
  · refine wpList_append_own w hgd s x 64 ho base 5 i0 (.int .u8 0) 1 1 Tryd.underlying64 hi hz0 hz1 hz2 rfl (by decide) v l0.length _ hs hown ⟨b, off, none⟩ lx.length cap (lx.map (Value.int .u8)) hx (by simp) ?_ (one_u8 lx) ?_ ?_ hbase ?_
    · intro j u hj
      rw [List.getElem?_map] at hj
      cases hx : lx[j]? with
      | none => rw [hx] at hj; cases hj
      | some y =>
        rw [hx] at hj
        simp at hj
        subst hj
        rw [Addr.add_lit]
        exact hc j y hx
    · unfold maxLen; omega
    · omega
    · intro v' w' h1 h2 _
      exact fin v' w' h1 h2

/-- append of octets that are written out in the statement itself. -/
theorem wpList_append_lits (w0 : World) {ops : Array Oper} {rest : List Oper} {o : Oper} {a : Act} {Q : Exit → Act → World → Prop} (hgd : o.guard = none) (s x : Operand)
    (ho : o.op = .call { callee := .builtin .append, args := #[s, x], argTypes := #[64, 64] }) (base : Nat) (v : Value) (l0 : List Int) (hs : a.eval s = v) (hown : OwnB w0 base v l0)
    (lx : List Int) (n : Nat) (cs : Array Value) (hx : a.eval x = .slice (some ⟨w0.heap.size, 0, none⟩) n n) (hn : lx.length = n) (hcs : (lx.map (Value.int .u8)).toArray = cs) (hoct : ∀ y ∈ lx, 0 ≤ y ∧ y ≤ 255) (hsz : l0.length + lx.length ≤ 140737488355328) (hbase : base ≤ w0.heap.size)
    (h : ∀ v' w', OwnB w' base v' (l0 ++ lx) → Below base w0 w' → wpList Tryd.prog ops Q rest (a.put o.dst v') w') : wpList Tryd.prog ops Q (o :: rest) a (w0.alloc (.cells cs 5)) := by
  subst hn
  subst hcs
  refine wpList_append_octs _ hgd s x ho base v l0 hs (World.ownsRow.alloc hown _) _ lx hx (Octs.made w0 lx hoct (by unfold maxLen; omega)) hsz (by simp; omega) ?_
  intro v' w' h1 h2
  refine h v' w' h1 ?_
  exact Below.grown ((Below.refl base w0).alloc hbase _) h2 (by simp; omega) (fun k hk => (hown.lt k hk).1)

theorem own_up {w w' : World} {base n0 : Nat} {e : TypeId} {v : Value} {n : Nat} {xs : List Value} (h : w.ownsRow base e n0 v n xs) (hb : Below w.heap.size w w') : w'.ownsRow base e n0 v n xs := by
  have hlt := h.lt
  obtain ⟨h1, h2⟩ := h
  refine ⟨h1, ?_⟩
  rcases h2 with h0 | ⟨g, cap, cur, rfl, hg, hh, r⟩
  · exact .inl h0
  · exact .inr ⟨g, cap, cur, rfl, hg, (hb.block g (hlt g rfl).2).trans hh, r⟩

theorem take_snoc {A : Type} (ls : List A) (k : Nat) (d : A) (h : k < ls.length) : ls.take (k + 1) = ls.take k ++ [ls.getD k d] := by
  rw [List.take_succ_eq_append_getElem h]
  simp [List.getD, h]
end Go.Proofs.YtpjmieiajhhbaaaDoor

/- Slices of structs of any type as plain lists of rows of cells: read, owned, appended to, written into. No Go function is walked here. -/
namespace Go.Proofs.YtpjmieiajhhbaaaDoor
open Go.RowKit
set_option linter.unusedVariables false

/-- The slice v holds in w the rows css, each of sz cells. -/
def Rws (sz : Nat) (w : World) (v : Value) (css : List (List Value)) : Prop :=
  (∀ cs ∈ css, cs.length = sz) ∧ ∃ a cap, v = .slice a css.length cap ∧ css.length ≤ cap ∧ cap ≤ maxLen ∧ (a = none → cap = 0) ∧
    (css ≠ [] → ∃ b off, a = some ⟨b, off, none⟩ ∧ ∀ j cs, css[j]? = some cs → ∀ i u, cs[i]? = some u → w.cell? ⟨b, off + j * sz + i, none⟩ = some u)

theorem Rws.moved {sz : Nat} {w w' : World} {v : Value} {css : List (List Value)} (h : Rws sz w v css) (e : ∀ b off x, css ≠ [] → v.ownBlock = some b → w.cell? ⟨b, off, none⟩ = some x → w'.cell? ⟨b, off, none⟩ = some x) : Rws sz w' v css := by
  obtain ⟨hx, a, cap, rfl, h1, h2, h3, h4⟩ := h
  refine ⟨hx, a, cap, rfl, h1, h2, h3, fun hn => ?_⟩
  obtain ⟨b, off, rfl, hc⟩ := h4 hn
  exact ⟨b, off, rfl, fun j cs hj i u hi => e b _ u hn rfl (hc j cs hj i u hi)⟩

theorem Rws.up {sz : Nat} {w w' : World} {v : Value} {css : List (List Value)} (h : Rws sz w v css) (hb : Below w.heap.size w w') : Rws sz w' v css :=
  h.moved fun b off x hn hv hc => (hb.cell (p := ⟨b, off, none⟩) (World.block_lt_of_cell? w ⟨b, off, none⟩ hc)).trans hc

theorem Rws.far {sz : Nat} {w w' : World} {v : Value} {css : List (List Value)} {r : Option Nat} (h : Rws sz w v css) (hg : w.grownBy w' r) (hne : ∀ b, v.ownBlock = some b → css ≠ [] → some b ≠ r) : Rws sz w' v css :=
  h.moved fun b off x hn hv hc => hg.cell hc (hne b hv hn)

theorem Rws.len {sz : Nat} {w : World} {v : Value} {css : List (List Value)} (h : Rws sz w v css) : ∃ a cap, v = .slice a css.length cap ∧ css.length ≤ cap ∧ cap ≤ maxLen := by
  obtain ⟨_, a, cap, rfl, h1, h2, _⟩ := h
  exact ⟨a, cap, rfl, h1, h2⟩

theorem Rws.at {sz : Nat} {w : World} {v : Value} {css : List (List Value)} (h : Rws sz w v css) (k : Nat) (hk : k < css.length) :
    ∃ b off cap, v = .slice (some ⟨b, off, none⟩) css.length cap ∧ css.length ≤ cap ∧ cap ≤ maxLen ∧ ∀ i u, (css.getD k [])[i]? = some u → w.cell? ⟨b, off + k * sz + i, none⟩ = some u := by
  obtain ⟨_, a, cap, rfl, h1, h2, _, h4⟩ := h
  obtain ⟨b, off, rfl, hc⟩ := h4 (by intro e; rw [e] at hk; simp at hk)
  exact ⟨b, off, cap, rfl, h1, h2, hc k _ (by simp [List.getD, hk])⟩

theorem Rws.nil (sz : Nat) (w : World) : Rws sz w (.slice none 0 0) [] := ⟨(fun cs h => by cases h), none, 0, rfl, Nat.le_refl _, Nat.zero_le _, fun _ => rfl, fun h => absurd rfl h⟩

/-- The first n of the rows. -/
theorem Rws.first {sz : Nat} {w : World} {a : Option Addr} {m cap : Nat} {css : List (List Value)} (h : Rws sz w (.slice a m cap) css) (n : Nat) (hn : n ≤ css.length) : Rws sz w (.slice a n cap) (css.take n) := by
  obtain ⟨hx, a', cap', e, h1, h2, h3, h4⟩ := h
  simp at e
  obtain ⟨rfl, rfl, rfl⟩ := e
  have hl : (css.take n).length = n := by rw [List.length_take]; omega
  refine ⟨fun cs hc => hx cs (List.mem_of_mem_take hc), a, cap, by rw [hl], by omega, h2, h3, fun hne => ?_⟩
  obtain ⟨b, off, rfl, hc⟩ := h4 (by intro e; rw [e] at hne; simp at hne)
  refine ⟨b, off, rfl, fun j cs hj => hc j cs ?_⟩
  rw [List.getElem?_take] at hj
  split at hj
  · exact hj
  · cases hj

theorem flat_at {sz : Nat} : ∀ (css : List (List Value)) (_ : ∀ cs ∈ css, cs.length = sz) (j : Nat) (cs : List Value) (_ : css[j]? = some cs) (i : Nat) (u : Value) (_ : cs[i]? = some u), css.flatten[j * sz + i]? = some u
  | [], _, j, cs, h, _, _, _ => by simp at h
  | c :: css, hx, 0, cs, h, i, u, hi => by
    simp at h
    subst h
    have : i < c.length := (List.getElem?_eq_some_iff.1 hi).1
    rw [List.flatten_cons, Nat.zero_mul, Nat.zero_add, List.getElem?_append_left this]
    exact hi
  | c :: css, hx, j + 1, cs, h, i, u, hi => by
    simp at h
    have e := flat_at css (fun d hd => hx d (by simp [hd])) j cs h i u hi
    have hc := hx c (by simp)
    rw [List.flatten_cons, List.getElem?_append_right (by rw [hc, Nat.add_mul]; omega), hc, Nat.add_mul]
    rw [show j * sz + 1 * sz + i - sz = j * sz + i by omega]
    exact e

theorem flat_rows {sz : Nat} (css : List (List Value)) (hx : ∀ cs ∈ css, cs.length = sz) : css.flatten.length = css.length * sz := by
  induction css with
  | nil => simp
  | cons c css ih =>
    rw [List.flatten_cons, List.length_append, ih (fun d hd => hx d (by simp [hd])), hx c (by simp), List.length_cons, Nat.add_mul]
    omega

/-- The slice v lies in memory of the call's own (no block below base) and holds the rows css in w. -/
def OwnR (w : World) (base : Nat) (e : TypeId) (sz : Nat) (v : Value) (css : List (List Value)) : Prop := (∀ cs ∈ css, cs.length = sz) ∧ w.ownsRow base e sz v css.length css.flatten

theorem OwnR.nil (w : World) (base : Nat) (e : TypeId) (sz : Nat) : OwnR w base e sz (.slice none 0 0) [] := ⟨fun cs h => (by cases h), World.ownsRow_nil _ _ _ _⟩
theorem OwnR.up {w w' : World} {base : Nat} {e : TypeId} {sz : Nat} {v : Value} {css : List (List Value)} (h : OwnR w base e sz v css) (hb : Below w.heap.size w w') : OwnR w' base e sz v css := ⟨h.1, own_up h.2 hb⟩
theorem OwnR.far {w w' : World} {base : Nat} {e : TypeId} {sz : Nat} {v : Value} {css : List (List Value)} {r : Option Nat} (h : OwnR w base e sz v css) (hg : w.grownBy w' r) (hne : v.ownBlock = none ∨ v.ownBlock ≠ r) : OwnR w' base e sz v css := ⟨h.1, World.ownsRow.kept h.2 hg hne⟩
theorem OwnR.mono {w : World} {base base' : Nat} {e : TypeId} {sz : Nat} {v : Value} {css : List (List Value)} (h : OwnR w base e sz v css) (hb : base' ≤ base) : OwnR w base' e sz v css := by
  obtain ⟨h0, h1, h2⟩ := h
  refine ⟨h0, h1, ?_⟩
  rcases h2 with h0 | ⟨g, cap, cur, rfl, hg, r⟩
  · exact .inl h0
  · exact .inr ⟨g, cap, cur, rfl, Nat.le_trans hb hg, r⟩

theorem Rws.own {w : World} {base : Nat} {e : TypeId} {sz : Nat} {v : Value} {css : List (List Value)} (h : OwnR w base e sz v css) : Rws sz w v css := by
  obtain ⟨hx, _, h2⟩ := h
  refine ⟨hx, ?_⟩
  rcases h2 with ⟨rfl, h0⟩ | ⟨g, cap, cur, rfl, hg, hh, hn, hm, hs, ht⟩
  · have e : css = [] := List.length_eq_zero_iff.1 h0
    subst e
    exact ⟨none, 0, rfl, by simp, by simp, fun _ => rfl, fun h => absurd rfl h⟩
  · refine ⟨some ⟨g, 0, none⟩, cap, rfl, hn, hm, (fun h => by cases h), fun hl => ⟨g, 0, rfl, fun j cs hj i u hi => ?_⟩⟩
    have e := flat_at css hx j cs hj i u hi
    rw [← ht, List.getElem?_take] at e
    split at e
    · simp only [World.cell?, hh, Nat.zero_add]
      simpa using e
    · cases e

/-- Rows that the statement itself writes out. -/
theorem Rws.made {sz : Nat} (w : World) (e : TypeId) (css : List (List Value)) (hx : ∀ cs ∈ css, cs.length = sz) (hm : css.length ≤ maxLen) : Rws sz (w.alloc (.cells css.flatten.toArray e)) (.slice (some ⟨w.heap.size, 0, none⟩) css.length css.length) css := by
  refine ⟨hx, some ⟨w.heap.size, 0, none⟩, css.length, rfl, Nat.le_refl _, hm, (fun h => by cases h), fun _ => ⟨w.heap.size, 0, rfl, fun j cs hj i u hi => ?_⟩⟩
  have f := flat_at css hx j cs hj i u hi
  have := cells_new w css.flatten [] e (j * sz + i) u f
  rw [Addr.add_lit] at this
  simpa [Nat.add_assoc] using this

theorem wp_append_rows (w : World) {o : Oper} {a : Act} {K : Act → World → Prop} {Q : Exit → Act → World → Prop} (s x : Operand) (t e : TypeId) (z : Value) (sz bytes : Nat)
    (ho : o.op = .call { callee := .builtin .append, args := #[s, x], argTypes := #[t, t] }) (ht : Tryd.prog.underlying t = some (.slice e))
    (hinf : (Tryd.prog.info? e).map (fun i => (i.zero, i.size, i.bytes)) = some (some z, sz, bytes)) (hzs : z.cells.size = sz) (hsz0 : 0 < sz)
    (base : Nat) (v : Value) (css0 : List (List Value)) (hs : a.eval s = v) (hown : OwnR w base e sz v css0)
    (vx : Value) (cssx : List (List Value)) (hx : a.eval x = vx) (hR : Rws sz w vx cssx) (h1 : ∀ cs ∈ cssx, ∀ u ∈ cs, u.oneCell' = true) (hb : ((css0.length + cssx.length) + (css0.length + cssx.length) / 4 + 192) * bytes ≤ 281474976710656) (hm : css0.length + cssx.length ≤ maxLen) (hbase : base ≤ w.heap.size)
    (h : ∀ v' w', OwnR w' base e sz v' (css0 ++ cssx) → w.grownBy w' v.ownBlock → K (a.put o.dst v') w') : o.wp Tryd.prog a w K Q := by
  obtain ⟨i0, hi, hz0, hz1, hz2⟩ := info_some hinf
  obtain ⟨hxx, ax, cap, rfl, hc1, hc2, hn, h4⟩ := hR
  have fin : ∀ v' w', w'.ownsRow base e sz v' (css0.length + cssx.length) (css0.flatten ++ cssx.flatten) → w.grownBy w' v.ownBlock → K (a.put o.dst v') w' := by
    intro v' w' q1 q2
    refine h v' w' ⟨?_, ?_⟩ q2
    · intro cs hcs
      rcases List.mem_append.1 hcs with q | q
      · exact hown.1 cs q
      · exact hxx cs q
    · rw [List.length_append, List.flatten_append]
      exact q1
  have hone : ∀ u ∈ cssx.flatten, u.oneCell' = true := by
    intro u hu
    obtain ⟨cs, q1, q2⟩ := List.mem_flatten.1 hu
    exact h1 cs q1 u q2
  cases ax with
  | none =>
    obtain rfl := hn rfl
    have hl : cssx.length = 0 := by omega
    obtain rfl : cssx = [] := List.length_eq_zero_iff.1 hl
    have hrun := run_append_owned_none (P := Tryd.prog) (w := w) base t o.type e i0 sz ht hi v css0.length css0.flatten hown.2
    unfold Oper.wp
    simp [execOp, ho, resolve, invoke, builtin, hs, hx, hrun, Result.andThen]
    exact fin v w (by simpa using hown.2) (grown_refl w _)
  | some ad =>
    refine wp_append_own_wide w s x t ho base e i0 z sz bytes ht hi hz0 hz1 hz2 hzs hsz0 v css0.length _ hs hown.2 ad cssx.length cap cssx.flatten hx (flat_rows cssx hxx) ?_ hone hm hb hbase ?_
    · intro j u hj
      have hjl : j < cssx.length * sz := by
        have := (List.getElem?_eq_some_iff.1 hj).1
        rw [flat_rows cssx hxx] at this
        exact this
      have hne : cssx ≠ [] := by intro q; rw [q] at hjl; simp at hjl
      obtain ⟨b, off, e1, hcc⟩ := h4 hne
      simp at e1
      subst e1
      have hq : j / sz < cssx.length := (Nat.div_lt_iff_lt_mul hsz0).2 hjl
      have hr : j % sz < sz := Nat.mod_lt _ hsz0
      have hcs := List.getElem?_eq_getElem hq
      have hlen := hxx cssx[j / sz] (List.getElem_mem hq)
      have hu := flat_at cssx hxx (j / sz) _ hcs (j % sz) _ (List.getElem?_eq_getElem (by omega))
      have ej : j / sz * sz + j % sz = j := by rw [Nat.mul_comm]; exact Nat.div_add_mod j sz
      rw [ej, hj] at hu
      have := hcc (j / sz) _ hcs (j % sz) u (by rw [hu]; exact List.getElem?_eq_getElem (by omega))
      rw [Nat.add_assoc, ej] at this
      rw [Addr.add_lit]
      exact this
    · intro v' w' q1 q2 _
      exact fin v' w' q1 q2

theorem wpList_append_rows (w : World) {ops : Array Oper} {rest : List Oper} {o : Oper} {a : Act} {Q : Exit → Act → World → Prop} (hgd : Region.wanted o (yielded ops a.tmps) = true) (s x : Operand) (t e : TypeId) (z : Value) (sz bytes : Nat)
    (ho : o.op = .call { callee := .builtin .append, args := #[s, x], argTypes := #[t, t] }) (ht : Tryd.prog.underlying t = some (.slice e))
    (hinf : (Tryd.prog.info? e).map (fun i => (i.zero, i.size, i.bytes)) = some (some z, sz, bytes)) (hzs : z.cells.size = sz) (hsz0 : 0 < sz)
    (base : Nat) (v : Value) (css0 : List (List Value)) (hs : a.eval s = v) (hown : OwnR w base e sz v css0)
    (vx : Value) (cssx : List (List Value)) (hx : a.eval x = vx) (hR : Rws sz w vx cssx) (h1 : ∀ cs ∈ cssx, ∀ u ∈ cs, u.oneCell' = true) (hb : ((css0.length + cssx.length) + (css0.length + cssx.length) / 4 + 192) * bytes ≤ 281474976710656) (hm : css0.length + cssx.length ≤ maxLen) (hbase : base ≤ w.heap.size)
    (h : ∀ v' w', OwnR w' base e sz v' (css0 ++ cssx) → w.grownBy w' v.ownBlock → wpList Tryd.prog ops Q rest (a.put o.dst v') w') : wpList Tryd.prog ops Q (o :: rest) a w := by
  unfold wpList
  rw [if_pos hgd]
  exact .inl (wp_append_rows w s x t e z sz bytes ho ht hinf hzs hsz0 base v css0 hs hown vx cssx hx hR h1 hb hm hbase h)

/-- At a step of a statement whose order is drawn. -/
theorem step_append_rows (w : World) {ops : Array Oper} {o : Oper} {a : Act} {K : Act → World → Prop} {Q : Exit → Act → World → Prop} {E : Prop} (hgd : o.guard = none) (s x : Operand) (t e : TypeId) (z : Value) (sz bytes : Nat)
    (ho : o.op = .call { callee := .builtin .append, args := #[s, x], argTypes := #[t, t] }) (ht : Tryd.prog.underlying t = some (.slice e))
    (hinf : (Tryd.prog.info? e).map (fun i => (i.zero, i.size, i.bytes)) = some (some z, sz, bytes)) (hzs : z.cells.size = sz) (hsz0 : 0 < sz)
    (base : Nat) (v : Value) (css0 : List (List Value)) (hs : a.eval s = v) (hown : OwnR w base e sz v css0)
    (vx : Value) (cssx : List (List Value)) (hx : a.eval x = vx) (hR : Rws sz w vx cssx) (h1 : ∀ cs ∈ cssx, ∀ u ∈ cs, u.oneCell' = true) (hb : ((css0.length + cssx.length) + (css0.length + cssx.length) / 4 + 192) * bytes ≤ 281474976710656) (hm : css0.length + cssx.length ≤ maxLen) (hbase : base ≤ w.heap.size)
    (h : ∀ v' w', OwnR w' base e sz v' (css0 ++ cssx) → w.grownBy w' v.ownBlock → K (a.put o.dst v') w') :
    if Region.wanted o (yielded ops a.tmps) = true then Oper.wp Tryd.prog o a w K Q else E := by
  have hw : Region.wanted o (yielded ops a.tmps) = true := by simp [Region.wanted, hgd]
  rw [if_pos hw]
  exact wp_append_rows w s x t e z sz bytes ho ht hinf hzs hsz0 base v css0 hs hown vx cssx hx hR h1 hb hm hbase h

/-- append of one row that the statement itself writes out: the block's number with a proof. -/
theorem wpList_append_row (w0 : World) {ops : Array Oper} {rest : List Oper} {o : Oper} {a : Act} {Q : Exit → Act → World → Prop} (hgd : Region.wanted o (yielded ops a.tmps) = true) (s x : Operand) (t e : TypeId) (z : Value) (sz bytes : Nat)
    (ho : o.op = .call { callee := .builtin .append, args := #[s, x], argTypes := #[t, t] }) (ht : Tryd.prog.underlying t = some (.slice e))
    (hinf : (Tryd.prog.info? e).map (fun i => (i.zero, i.size, i.bytes)) = some (some z, sz, bytes)) (hzs : z.cells.size = sz) (hsz0 : 0 < sz)
    (base : Nat) (v : Value) (css0 : List (List Value)) (hs : a.eval s = v) (hown : OwnR w0 base e sz v css0)
    (cs : List Value) (csa : Array Value) (N : Nat) (hN : N = w0.heap.size) (hcsa : cs.toArray = csa) (hcl : cs.length = sz) (hx : a.eval x = .slice (some ⟨N, 0, none⟩) 1 1) (h1 : ∀ u ∈ cs, u.oneCell' = true) (hb : ((css0.length + 1) + (css0.length + 1) / 4 + 192) * bytes ≤ 281474976710656) (hm : css0.length + 1 ≤ maxLen) (hbase : base ≤ w0.heap.size)
    (h : ∀ v' w', OwnR w' base e sz v' (css0 ++ [cs]) → Below base w0 w' → wpList Tryd.prog ops Q rest (a.put o.dst v') w') : wpList Tryd.prog ops Q (o :: rest) a (w0.alloc (.cells csa e)) := by
  subst hcsa
  subst hN
  have hR := Rws.made (sz := sz) w0 e [cs] (by simp [hcl]) (by simp [maxLen])
  simp only [List.flatten_cons, List.flatten_nil, List.append_nil, List.length_cons, List.length_nil, Nat.zero_add] at hR
  refine wpList_append_rows _ hgd s x t e z sz bytes ho ht hinf hzs hsz0 base v css0 hs ⟨hown.1, World.ownsRow.alloc hown.2 _⟩ _ [cs] hx hR (by simpa using h1) (by simpa using hb) (by simpa using hm) (by simp; omega) ?_
  intro v' w' q1 q2
  exact h v' w' q1 (Below.grown ((Below.refl base w0).alloc hbase _) q2 (by simp; omega) (fun k hk => (hown.2.lt k hk).1))

theorem flat_set {sz : Nat} : ∀ (css : List (List Value)) (_ : ∀ cs ∈ css, cs.length = sz) (j : Nat) (_ : j < css.length) (i : Nat) (_ : i < sz) (u : Value), css.flatten.set (j * sz + i) u = (css.set j ((css.getD j []).set i u)).flatten
  | [], _, j, h, _, _, _ => by simp at h
  | c :: css, hx, 0, _, i, hi, u => by
    have hc := hx c (by simp)
    rw [List.flatten_cons, Nat.zero_mul, Nat.zero_add, List.set_append_left _ _ (by omega)]
    simp
  | c :: css, hx, j + 1, h, i, hi, u => by
    have hc := hx c (by simp)
    have e := flat_set css (fun d hd => hx d (by simp [hd])) j (by simpa using h) i hi u
    rw [List.flatten_cons, List.set_append_right _ _ (by rw [hc, Nat.add_mul]; omega), hc, Nat.add_mul]
    rw [show j * sz + 1 * sz + i - sz = j * sz + i by omega, e]
    simp [List.getD]

/-- One cell of an owned row is written. -/
theorem OwnR.set {w : World} {base : Nat} {e : TypeId} {sz g n cap : Nat} {css : List (List Value)} (h : OwnR w base e sz (.slice (some ⟨g, 0, none⟩) n cap) css) (hn : css.length = n) (j : Nat) (hj : j < n) (i : Nat) (hi : i < sz) (u : Value) :
    OwnR (w.setCell ⟨g, j * sz + i, none⟩ u) base e sz (.slice (some ⟨g, 0, none⟩) n cap) (css.set j ((css.getD j []).set i u)) ∧ w.grownBy (w.setCell ⟨g, j * sz + i, none⟩ u) (some g) ∧ w.frozen? ⟨g, j * sz + i, none⟩ = false := by
  subst hn
  obtain ⟨h0, h1⟩ := h
  have st := h1.stored (j * sz + i) u
  refine ⟨⟨?_, ?_⟩, st.2, h1.frozenAt _⟩
  · intro cs hcs
    rcases List.mem_or_eq_of_mem_set hcs with q | q
    · exact h0 cs q
    · rw [q, List.length_set]
      exact h0 _ (by simp [List.getD, hj])
  · rw [List.length_set, ← flat_set css h0 j hj i hi u]
    exact st.1
end Go.Proofs.YtpjmieiajhhbaaaDoor

/- Blocks. No Go function is walked here. -/
namespace Go.Proofs.YtpjmieiajhhbaaaDoor
open Go.RowKit
set_option linter.unusedVariables false

/-! ### blocks -/
theorem blk_cell {w : World} {B : Nat} {cs : Array Value} {t : TypeId} {fr : Nat × Nat} (h : w.heap[B]? = some (.cells cs t fr)) (i : Nat) (x : Value) (hi : cs[i]? = some x) : w.cell? ⟨B, i, none⟩ = some x := by
  simp only [World.cell?, h]
  simpa using hi
theorem blk_frozen {w : World} {B : Nat} {cs : Array Value} {t : TypeId} (h : w.heap[B]? = some (.cells cs t)) (i : Nat) : w.frozen? ⟨B, i, none⟩ = false := by
  simp only [World.frozen?, h]
  simp
theorem blk_set {w : World} {B : Nat} {cs : Array Value} {t : TypeId} {fr : Nat × Nat} (h : w.heap[B]? = some (.cells cs t fr)) (i : Nat) (u : Value) : (w.setCell ⟨B, i, none⟩ u).heap[B]? = some (.cells (cs.setIfInBounds i u) t fr) := by
  simp only [World.setCell, Array.getElem?_modify, h]
  simp
theorem blk_lt {w : World} {B : Nat} {o : Obj} (h : w.heap[B]? = some o) : B < w.heap.size := (Array.getElem?_eq_some_iff.1 h).1
theorem blk_up {w w' : World} {B : Nat} {o : Obj} (h : w.heap[B]? = some o) (hb : Below w.heap.size w w') : w'.heap[B]? = some o := (hb.block B (blk_lt h)).trans h
theorem blk_grown {w w' : World} {B : Nat} {o : Obj} {r : Option Nat} (h : w.heap[B]? = some o) (hg : w.grownBy w' r) (hne : some B ≠ r) : w'.heap[B]? = some o := (hg.block B (blk_lt h) hne).trans h
theorem blk_new (w : World) (o : Obj) : (w.alloc o).heap[w.heap.size]? = some o := by
  show (w.heap.push o)[w.heap.size]? = _
  simp
theorem grown_set (w : World) (a : Addr) (u : Value) : w.grownBy (w.setCell a u) (some a.block) :=
  ⟨rfl, rfl, rfl, by simp [World.setCell], fun k hk hne => Below.heap_setCell w a u k (fun e => hne (by rw [e]))⟩
theorem grown_up {w w' : World} (h : Below w.heap.size w w') (r : Option Nat) : w.grownBy w' r := ⟨h.os, h.tape, h.output, h.size, fun k hk _ => h.block k hk⟩
theorem grown_trans {a b c : World} {r : Option Nat} (h : a.grownBy b r) (k : b.grownBy c r) : a.grownBy c r :=
  ⟨k.os.trans h.os, k.tape.trans h.tape, k.output.trans h.output, Nat.le_trans h.size k.size, fun i hi hne => (k.block i (Nat.lt_of_lt_of_le hi h.size) hne).trans (h.block i hi hne)⟩
theorem below_grown {B : Nat} {w w' : World} {r : Option Nat} (hg : w.grownBy w' r) (hB : B ≤ w.heap.size) (hr : ∀ k, r = some k → B ≤ k) : Below B w w' := (Below.refl B w).grown hg hB hr

/-- Two slices do not lie in one block. -/
def Apart (u v : Value) : Prop := u.ownBlock = none ∨ u.ownBlock ≠ v.ownBlock
theorem Apart.symm {u v : Value} (h : Apart u v) : Apart v u := by
  unfold Apart at *
  cases hv : v.ownBlock with
  | none => exact .inl rfl
  | some b =>
    refine .inr ?_
    rcases h with h | h
    · rw [h]; simp
    · rw [hv] at h; exact fun e => h e.symm

theorem own_blk_ne {w : World} {base : Nat} {e t : TypeId} {sz : Nat} {v : Value} {n : Nat} {xs : List Value} {B : Nat} {cs : Array Value} {fr : Nat × Nat} (h : w.ownsRow base e sz v n xs) (hb : w.heap[B]? = some (.cells cs t fr)) (hne : e ≠ t) : v.ownBlock = none ∨ v.ownBlock ≠ some B := by
  rcases h.2 with ⟨rfl, _⟩ | ⟨g, cap, cur, rfl, _, hg, _⟩
  · exact .inl rfl
  · refine .inr ?_
    simp only [Value.ownBlock]
    intro q
    injection q with q
    subst q
    rw [hg] at hb
    simp at hb
    exact hne hb.2.1

theorem own_own_ne {w : World} {b1 b2 : Nat} {e1 e2 : TypeId} {s1 s2 : Nat} {v1 v2 : Value} {n1 n2 : Nat} {x1 x2 : List Value} (h1 : w.ownsRow b1 e1 s1 v1 n1 x1) (h2 : w.ownsRow b2 e2 s2 v2 n2 x2) (hne : e1 ≠ e2) : v1.ownBlock = none ∨ v1.ownBlock ≠ v2.ownBlock := by
  rcases h2.2 with ⟨rfl, _⟩ | ⟨g, cap, cur, rfl, _, hg, _⟩
  · rcases h1.2 with ⟨rfl, _⟩ | ⟨g, cap, cur, rfl, _⟩
    · exact .inl rfl
    · exact .inr (by simp [Value.ownBlock])
  · exact own_blk_ne h1 hg hne
end Go.Proofs.YtpjmieiajhhbaaaDoor

/- Worlds that only grow: statements whose order is drawn and whose callees only lay blocks. -/
namespace Go.Proofs.YtpjmieiajhhbaaaDoor
open Go.RowKit
set_option linter.unusedVariables false

/-- A world that is w but for draws and new blocks. -/
structure UpW (w : World) where
  val : World
  up : Below w.heap.size w val

theorem wp_region_up {id : Nat} {Q : Exit → Act → World → Prop} {a : Act} {w : World} {l : List Oper} (hm : Tryd.prog.follows .mixedOrders = true) (hB : Region.lexB .any l.toArray = true)
    (h : wpQuiet Tryd.prog l.toArray (fun w' => ∃ p : UpW w, w' = p.val) (fun a' => ∀ w', (∃ p : UpW w, w' = p.val) → Q .normal a' w') l a) : (Code.region id l.toArray true).wp Tryd.prog Q a w :=
  wp_region_quiet (C := fun w' => ∃ p : UpW w, w' = p.val) hm hB ⟨⟨w.drew, (Below.refl _ w).drew⟩, rfl⟩ (by simpa using h)

theorem calls_up {f : FuncId} {args : Array Value} {w : World} {p : UpW w} {v : Value}
    (h : Calls Tryd.prog f args p.val fun e w' => e = .returned v ∧ Below p.val.heap.size p.val w') : Calls Tryd.prog f args p.val fun e w'' => e = .returned v ∧ ∃ q : UpW w, w'' = q.val :=
  h.mono fun _ w' ⟨he, hb⟩ => ⟨he, ⟨w', up_trans p.up hb⟩, rfl⟩

theorem cell_up {w : World} {a : Addr} {v : Value} (h : w.cell? a = some v) (p : UpW w) : p.val.cell? a = some v :=
  (p.up.cell (World.block_lt_of_cell? w a h)).trans h
instance (w : World) : Inhabited (UpW w) := ⟨⟨w, Below.refl _ _⟩⟩
end Go.Proofs.YtpjmieiajhhbaaaDoor
