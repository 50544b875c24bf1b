/- The texts TOpen, TOrd, TGet, TBet, TLaw, TOf, TLParts, in this order. -/
import Derived.Test.YtekoniaobmapdabTTold
import Derived.Deep.RegionHeld3
import Derived.Test.YtekoniaobmapdabG17
import Derived.Test.YtekoniaobmapdabG14

/- The walk of the document's Open of layer 10. -/
namespace Go.Proofs.Ytekoniaobmapdab
open Go.RowKit SumPlain
set_option linter.unusedVariables false
set_option linter.unusedSimpArgs false

theorem set3_blk {w : World} {N : Nat} {t : TypeId} {x0 x1 x2 : Value} (h : w.heap[N]? = some (.cells #[x0, x1, x2] t)) (a b c : Value) : (((w.setCell ⟨N, 0, none⟩ a).setCell ⟨N, 1, none⟩ b).setCell ⟨N, 2, none⟩ c).heap[N]? = some (.cells #[a, b, c] t) := by
  have := blk_set (blk_set (blk_set h 0 a) 1 b) 2 c
  simpa only [List.setIfInBounds_toArray, List.set_cons_zero, List.set_cons_succ] using this
theorem set3_grown (w : World) (N : Nat) (a b c : Value) : w.grownBy (((w.setCell ⟨N, 0, none⟩ a).setCell ⟨N, 1, none⟩ b).setCell ⟨N, 2, none⟩ c) (some N) :=
  grown_trans (grown_trans (grown_set w ⟨N, 0, none⟩ a) (grown_set _ ⟨N, 1, none⟩ b)) (grown_set _ ⟨N, 2, none⟩ c)

/-- How Open ends: o is what it answers. -/
def OpE (o : List En × (Int × List Int) × Int) (w : World) (e : Ending) (w' : World) : Prop := ∃ ea en ec fa fn fc, e = .returned (.tuple #[.agg #[.slice ea en ec, .int .i64 o.2.1.1, .slice fa fn fc], .int .i64 o.2.2]) ∧ Hid (en = o.1.length ∧ OwnR w' w.heap.size 32 4 (.slice ea en ec) (o.1.map enRow)) ∧ Hid (fn = o.2.1.2.length ∧ OwnB w' w.heap.size (.slice fa fn fc) o.2.1.2) ∧ Hid (Below w.heap.size w w')

theorem ownB_far {w w' : World} {base r m : Nat} {v : Value} {l : List Int} (h : OwnB w base v l) (hg : w.grownBy w' (some r)) (hr : r < base) (hm : m ≤ r := by exact Nat.le_refl _) : OwnB w' m v l := by
  have hne : v.ownBlock = none ∨ v.ownBlock ≠ some r := by
    rcases h.2 with ⟨e, _⟩ | ⟨g, cap, cur, e, hg, _⟩
    · rw [e]; exact .inl rfl
    · right
      rw [e]
      intro q
      simp only [Value.ownBlock] at q
      simp at q
      omega
  exact OwnB.mono (World.ownsRow.kept h hg hne) (by omega)
theorem bare_len {l : List Int} (h : (bareOf l).2 = 0) (hl : l.length = 20) : (bareOf l).1.length = 16 := by
  have := (bareOf_good (l := l) (x := (bareOf l).1) (by rw [← h])).1
  omega

end Go.Proofs.Ytekoniaobmapdab

/- The walks of the document's ordered, Get and Range of layer 10. -/
namespace Go.Proofs.Ytekoniaobmapdab
open Go.RowKit SumPlain
set_option linter.unusedVariables false
set_option linter.unusedSimpArgs false

end Go.Proofs.Ytekoniaobmapdab

/- The walks of the document's Get and Range of layer 10. -/
namespace Go.Proofs.Ytekoniaobmapdab
open Go.RowKit SumPlain
set_option linter.unusedVariables false
set_option linter.unusedSimpArgs false

/-- What Get answers. -/
def getT (b : List Int) (key : ByteArray) (seq : Int) : En × Bool × Int :=
  if (openB b).2.2 = 0 then ((firstV (openB b).1 key seq).1, (firstV (openB b).1 key seq).2, 0) else (default, false, (openB b).2.2)

end Go.Proofs.Ytekoniaobmapdab

/- The walk of the document's Between of layer 10. -/
namespace Go.Proofs.Ytekoniaobmapdab
open Go.RowKit SumPlain
set_option linter.unusedVariables false
set_option linter.unusedSimpArgs false

end Go.Proofs.Ytekoniaobmapdab

/- What is wanted of the program's calls of layer 10, as the laws' walks want it; TableRot walked upon it. -/
namespace Go.Proofs.Ytekoniaobmapdab
open Go.RowKit SumPlain
set_option linter.unusedVariables false
set_option linter.unusedSimpArgs false

/-- What is wanted of the program's functions. -/
structure PgT : Prop where
  build : ∀ (l : List En) (v : Value) (W : World), EntsR W v l → Calls Try.prog 6 #[v] W fun e w' => ∃ a n c, e = .returned (.tuple #[.slice a n c, .int .i64 (buildB l).2]) ∧ Hid (n = (buildB l).1.length) ∧ Hid (OwnB w' W.heap.size (.slice a n c) (buildB l).1) ∧ Hid (Below W.heap.size W w')
  opn : ∀ (B : List Int) (a : Option Addr) (n c : Nat) (W : World), n = B.length → Octs W (.slice a n c) B → n ≤ 140737488351232 → Calls Try.prog 10 #[.slice a n c] W fun e w' => OpE (openB B) W e w'
  get : ∀ (B : List Int) (a : Option Addr) (n c : Nat) (key : ByteArray) (seq : Int) (W : World), n = B.length → Octs W (.slice a n c) B → n ≤ 140737488351232 → Calls Try.prog 13 #[.slice a n c, .string key, .int .i64 seq] W fun e w' => e = .returned (.tuple #[enV (getT B key seq).1, .bool (getT B key seq).2.1, .int .i64 (getT B key seq).2.2]) ∧ Hid (Below W.heap.size W w')
  alive : ∀ (W : World), Calls Try.prog 4 #[] W fun e w' => e = .returned (.bool true) ∧ Hid (Below W.heap.size W w')

theorem num_any (x : Int) (W : World) : Calls Try.prog 8 #[.int .i64 x] W fun e w' => e = .returned (.int .i64 x) ∧ w' = W := by
  go_enter Try.func8, Try.ntmps8
  go_wp2
  go_ret
  exact ⟨rfl, rfl⟩

theorem sameB_law (l : List Int) (v1 v2 : Value) (W : World) (h1 : Octs W v1 l) (h2 : Octs W v2 l) : Calls Try.prog 9 #[v1, v2] W fun e w' => e = .returned (.bool true) ∧ w' = W := by
  refine (same_any l l _ _ W h1 h2).mono ?_
  rintro e w' ⟨rfl, hb⟩
  exact ⟨by simp, hb⟩

theorem buildB_zero {l : List En} : (buildB l).2 = 0 ↔ chkT l = 0 := by
  unfold buildB
  by_cases h : chkT l = 0
  · rw [if_pos h]; simp [h]
  · rw [if_neg h]
theorem buildB_none {l : List En} (h : (buildB l).2 ≠ 0) : (buildB l).1 = [] := by
  have h' : ¬ chkT l = 0 := fun e => h (buildB_zero.2 e)
  unfold buildB
  rw [if_neg h']
theorem buildB_good {l : List En} (h : chkT l = 0) : buildB l = (tabO l, 0) := by unfold buildB; rw [if_pos h]
theorem buildB_oct (l : List En) : ∀ x ∈ (buildB l).1, 0 ≤ x ∧ x ≤ 255 := by
  unfold buildB
  by_cases h : chkT l = 0
  · rw [if_pos h]; exact tab_oct h
  · rw [if_neg h]; simp
theorem tab_le {l : List En} (h : chkT l = 0) : 20 ≤ (tabO l).length ∧ (tabO l).length ≤ 20000000 := by
  have h1 := at_len h
  have h2 := fr2_len h
  have h3 := (fr3_oct h).2
  have h4 := foot_len (atT l) (toT l) l.length
  have h5 : (fr3 l).length ≤ 8300 := by
    unfold fr3
    rw [frame_len]
    have := octets_len (((encL (filT l).1 (filT l).2).length : Nat) : Int) (by omega) (by omega)
    omega
  have h6 : atT l = (blkT l (manyT l)).length := rfl
  unfold tabO
  simp only [List.length_append]
  omega
theorem buildB_len (l : List En) : (buildB l).1.length ≤ 20000000 := by
  by_cases h : chkT l = 0
  · rw [buildB_good h]; exact (tab_le h).2
  · rw [buildB_none (fun e => h (buildB_zero.1 e))]; simp

end Go.Proofs.Ytekoniaobmapdab

/- The law's of and same of layer 10. -/
namespace Go.Proofs.Ytekoniaobmapdab
open Go.RowKit SumPlain
set_option linter.unusedVariables false
set_option linter.unusedSimpArgs false

end Go.Proofs.Ytekoniaobmapdab

/- TableParts walked upon what is wanted of the program. -/
namespace Go.Proofs.Ytekoniaobmapdab
open Go.RowKit SumPlain
set_option linter.unusedVariables false
set_option linter.unusedSimpArgs false

theorem rows_oneP (l : List En) : ∀ cs ∈ l.map enRow, ∀ u ∈ cs, u.oneCell' = true := by
  intro cs hcs u hu
  obtain ⟨s, _, rfl⟩ := List.mem_map.1 hcs
  exact enRow_one s _ (by simp) u hu

theorem copyEnts_own (l : List En) (v : Value) (w : World) (hv : EntsR w v l) (hl : l.length ≤ 4398046511104) :
    Calls Try.prog 5 #[v] w fun e w' => ∃ a n c, e = .returned (.slice a n c) ∧ OwnR w' w.heap.size 32 4 (.slice a n c) (l.map enRow) ∧ Below w.heap.size w w' := by
  have HV : Hid (Rws 4 w v (l.map enRow)) := hv
  have HB : Hid ((((([] : List (List Value)).length + (l.map enRow).length) + (([] : List (List Value)).length + (l.map enRow).length) / 4 + 192) * 48 ≤ 281474976710656) ∧ ([] : List (List Value)).length + (l.map enRow).length ≤ maxLen) := by
    unfold Hid
    rw [List.length_map]
    unfold maxLen
    simp only [List.length_nil]
    omega
  clear hv
  go_enter Try.func5, Try.ntmps5
  go_wp2_with (at_builtin; refine wpList_append_rows w rfl _ _ 22 32 _ 4 48 rfl Try.underlying22 Try.info32 rfl (by decide) w.heap.size (.slice none 0 0) [] rfl (OwnR.nil _ _ _ _) v (l.map enRow) rfl HV.out (rows_oneP l) HB.out.1 HB.out.2 (Nat.le_refl _) ?_)
  intro v' w' hown hg
  have HT : Hid (OwnR w' w.heap.size 32 4 v' (l.map enRow)) := hown
  have HU : Hid (Below w.heap.size w w') := (Below.refl _ _).grown hg (Nat.le_refl _) (by simp [Value.ownBlock])
  clear hown hg
  obtain ⟨a, c, e, _, _⟩ := (Rws.own HT.out).len
  generalize (l.map enRow).length = n at e
  subst e
  go_wp2
  go_ret
  exact ⟨a, n, c, rfl, HT.out, HU.out⟩

end Go.Proofs.Ytekoniaobmapdab
