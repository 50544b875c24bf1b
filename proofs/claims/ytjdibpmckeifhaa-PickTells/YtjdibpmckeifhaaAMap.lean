/- Maps of the program by numbers: their keys as a list. -/
import Derived.Test.YtjdibpmckeifhaaAMay
import Derived.Maps.OwnSet
namespace Go.Proofs.Ytjdibpmckeifhaa
open Go.RowKit
set_option linter.unusedVariables false

def addId (ids : List Int) (x : Int) : List Int := if ids.contains x then ids else ids ++ [x]
def In64 (x : Int) : Prop := -9223372036854775808 ≤ x ∧ x ≤ 9223372036854775807
theorem wf_i64_of {x : Int} (h : In64 x) : (Lit.int .i64 x).wf = true := WalkArith.wf_i64 h

/-- Block b is a map with these keys. -/
def KeyW (R : Value → Option (DataW Unit × List MemPlace)) (w : World) (b : Nat) (ids : List Int) : Prop := ∃ D : DataW Unit, w.ownsMap Try.prog 3 R b ids.length D ∧ Maps.Tidy D ∧ Maps.size D = ids.length ∧ ∀ x, Maps.has D (.int .i64 x) = ids.contains x
def SetW (w : World) (b : Nat) (ids : List Int) : Prop := KeyW unitElem w b ids
def CntW (w : World) (b : Nat) (ids : List Int) : Prop := KeyW (plainElem Try.prog 3) w b ids

theorem own_tight {R : Value → Option (DataW Unit × List MemPlace)} {w : World} {b n : Nat} {D : DataW Unit} (h : w.ownsMap Try.prog 3 R b n D) : w.ownsMap Try.prog 3 R b (Maps.size D) D := by
  obtain ⟨es, clock, hb, F, hs, rfl⟩ := h
  exact ⟨es, clock, hb, F, by simp [Maps.size, length_sorted], rfl⟩
theorem KeyW.made (R) (w : World) : KeyW R (w.alloc (.map #[] 0)) w.heap.size [] :=
  ⟨.map [], World.ownsMap_made w Try.prog 3 R, Maps.tidy_empty, rfl, fun x => rfl⟩
theorem KeyW.lt {R} {w : World} {b : Nat} {ids : List Int} (h : KeyW R w b ids) : b < w.heap.size := by
  obtain ⟨D, h1, _⟩ := h
  exact h1.lt
theorem KeyW.up {R} {w w' : World} {b : Nat} {ids : List Int} (h : KeyW R w b ids) (hb : Below w.heap.size w w') : KeyW R w' b ids := by
  obtain ⟨D, ⟨es, clock, hh, r⟩, h2⟩ := h
  exact ⟨D, ⟨es, clock, (hb.block b (Array.getElem?_eq_some_iff.1 hh).1).trans hh, r⟩, h2⟩
theorem KeyW.put {R} {w' : World} {b : Nat} {ids : List Int} {x : Int} {D d : DataW Unit} (hx : In64 x) (h2 : Maps.Tidy D) (h3 : Maps.size D = ids.length) (h4 : ∀ y, Maps.has D (.int .i64 y) = ids.contains y)
    (h : w'.ownsMap Try.prog 3 R b (ids.length + 1) (D.put (.int .i64 x) d)) : KeyW R w' b (addId ids x) := by
  have hk : WideAt.IsKeyLit (.int .i64 x) := trivial
  have hsz : Maps.size (D.put (.int .i64 x) d) = (addId ids x).length := by
    rw [Maps.size_put h2, h4 x, h3]
    unfold addId
    split <;> simp
  refine ⟨D.put (.int .i64 x) d, ?_, h2.put hk _, hsz, fun y => ?_⟩
  · have := own_tight h
    rw [hsz] at this
    exact this
  · by_cases e : y = x
    · subst e
      rw [Maps.has_put_same h2.isMap hk]
      unfold addId
      split <;> simp_all
    · rw [Maps.has_put_other (by intro q; injection q with _ q; exact e q), h4 y]
      unfold addId
      split
      · rfl
      · simp [e]
theorem KeyW.del {R} {w' : World} {b : Nat} {ids : List Int} {x : Int} {D : DataW Unit} (hn : ids.Nodup) (h2 : Maps.Tidy D) (h3 : Maps.size D = ids.length) (h4 : ∀ y, Maps.has D (.int .i64 y) = ids.contains y)
    (h : w'.ownsMap Try.prog 3 R b ids.length (D.del (.int .i64 x))) : KeyW R w' b (ids.erase x) := by
  have hsz : Maps.size (D.del (.int .i64 x)) = (ids.erase x).length := by
    have := Maps.size_del (k := .int .i64 x) h2
    rw [h4 x, h3] at this
    by_cases q : x ∈ ids
    · have q2 : ids.contains x = true := by simpa using q
      rw [q2] at this
      have := List.length_erase_of_mem q
      have : 0 < ids.length := List.length_pos_of_mem q
      simp at *
      omega
    · have q2 : ids.contains x = false := by simpa using q
      rw [q2] at this
      rw [List.erase_of_not_mem q]
      simpa using this
  refine ⟨D.del (.int .i64 x), ?_, h2.del _, hsz, fun y => ?_⟩
  · have := own_tight h
    rw [hsz] at this
    exact this
  · by_cases e : y = x
    · subst e
      rw [Maps.has_del_same]
      symm
      simp [hn.mem_erase_iff]
    · rw [Maps.has_del_other (by intro q; injection q with _ q; exact e q), h4 y]
      rw [Bool.eq_iff_iff]
      simp [hn.mem_erase_iff, e]
theorem turned_below {w w' : World} {b n : Nat} (h : w.mapTurned w' b) (hb : n ≤ b) (hs : n ≤ w.heap.size) : Below n w w' := by
  have := h.grown
  exact (Below.refl _ _).grown this hs (by simp; omega)

/-- A key's count, whatever it is. -/
theorem wpList_cnt_get (w : World) {ops : Array Oper} {rest : List Oper} {o : Oper} {a : Act} {Q : Exit → Act → World → Prop} (hgd : o.guard = none) (m x : Operand) (hop : o.op = Op.lookup 74 m x false)
    (b : Nat) (ids : List Int) (hm : a.eval m = .map (some b)) (hs : CntW w b ids) (id : Int) (hid : In64 id) (hx : a.eval x = .int .i64 id)
    (hK : ∀ c : Int, wpList Try.prog ops Q rest (a.put o.dst (.int .i64 c)) w) : wpList Try.prog ops Q (o :: rest) a w := by
  obtain ⟨D, h1, h2, h3, h4⟩ := hs
  refine wpList_lookup_own_int w hgd m x 74 hop 3 3 .i64 (Maps.int_keyed Try.underlying3) Try.underlying74 Try.underlying3 (by kernel_rfl) b ids.length D hm h1 _ (.int .i64 id) hx (Maps.keyOf_int_mk Try.underlying3 (wf_i64_of hid)) ?_
  intro c _ _
  exact hK c
theorem wpList_cnt_put (w : World) {ops : Array Oper} {rest : List Oper} {o : Oper} {a : Act} {Q : Exit → Act → World → Prop} (hgd : o.guard = none) (m x v : Operand) (hop : o.op = Op.mapUpdate 74 m x v)
    (b : Nat) (ids : List Int) (hm : a.eval m = .map (some b)) (hs : CntW w b ids) (hn : ids.length < maxLen) (id : Int) (hid : In64 id) (hx : a.eval x = .int .i64 id) (c : Int) (hc : In64 c) (hv : a.eval v = .int .i64 c)
    (hK : ∀ w', CntW w' b (addId ids id) → w.mapTurned w' b → wpList Try.prog ops Q rest (a.put o.dst undef) w') : wpList Try.prog ops Q (o :: rest) a w := by
  obtain ⟨D, h1, h2, h3, h4⟩ := hs
  refine wpList_mapUpdate_in w hgd m x v 74 hop 3 3 (Maps.int_keyed Try.underlying3) Try.underlying74 (plainElem Try.prog 3) b ids.length D hm h1 hn _ _ (.int .i64 id) hx hv (Maps.keyOf_int_mk Try.underlying3 (wf_i64_of hid)) (.lit (.int .i64 c)) [] (plainElem_int Try.underlying3 (wf_i64_of hc)) ?_
  intro w' r1 r2
  exact hK w' (KeyW.put hid h2 h3 h4 r1) r2
theorem wpList_cnt_len (w : World) {ops : Array Oper} {rest : List Oper} {o : Oper} {a : Act} {Q : Exit → Act → World → Prop} (hgd : o.guard = none) (m : Operand) (hop : o.op = Op.call { callee := Callee.builtin Builtin.len, args := #[m], argTypes := #[74] })
    (b : Nat) (ids : List Int) (hm : a.eval m = .map (some b)) (hs : CntW w b ids)
    (hK : wpList Try.prog ops Q rest (a.put o.dst (.int .i64 (ids.length : Int))) w) : wpList Try.prog ops Q (o :: rest) a w := by
  obtain ⟨D, h1, h2, h3, h4⟩ := hs
  refine wpList_len_own w hgd m 74 hop 3 3 Try.underlying74 (plainElem Try.prog 3) b ids.length D hm h1 ?_
  rw [h3]
  exact hK
end Go.Proofs.Ytjdibpmckeifhaa
