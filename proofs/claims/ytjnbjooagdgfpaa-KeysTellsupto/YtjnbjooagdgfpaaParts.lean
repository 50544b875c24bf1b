/- Slices of parts as plain lists: a part is whether it is a number, the number, and the text's octets. The law's own helper that copies them (of) is walked. -/
import Derived.Test.YtjnbjooagdgfpaaBase
import Derived.Deep.DeepAppendWide
namespace Go.Proofs.Ytjnbjooagdgfpaa
open Go.RowKit
set_option linter.unusedVariables false

theorem Try.info49 : (Try.prog.info? 49).map (fun i => (i.zero, i.size, i.bytes)) = some (some (.agg #[.bool false, .int .i64 0, .string ⟨#[]⟩]), 3, 32) := by kernel_rfl
theorem Try.info51 : (Try.prog.info? 51).map (fun i => (i.zero, i.size, i.bytes)) = some (some (.agg #[.bool false, .int .i64 0, .string ⟨#[]⟩]), 3, 32) := by kernel_rfl

def pcells (p : Bool × Int × List Int) : List Value := [.bool p.1, .int .i64 p.2.1, .string (strOfNums p.2.2)]
def pval (p : Bool × Int × List Int) : Value := .agg #[.bool p.1, .int .i64 p.2.1, .string (strOfNums p.2.2)]

/-- A part's number fits int, its text is octets. -/
def Pwf (p : Bool × Int × List Int) : Prop := (-9223372036854775808 ≤ p.2.1 ∧ p.2.1 ≤ 9223372036854775807) ∧ (∀ x ∈ p.2.2, 0 ≤ x ∧ x ≤ 255) ∧ p.2.2.length ≤ maxLen

/-- The slice v holds the parts l in w. -/
def Parts (w : World) (v : Value) (l : List (Bool × Int × List Int)) : Prop :=
  (∀ p ∈ l, Pwf p) ∧ ∃ a cap, v = .slice a l.length cap ∧ l.length ≤ cap ∧ cap ≤ maxLen ∧
    (l ≠ [] → ∃ b off, a = some ⟨b, off, none⟩ ∧ ∀ j p, l[j]? = some p → w.cell? ⟨b, off + j * 3, none⟩ = some (.bool p.1) ∧ w.cell? ⟨b, off + j * 3 + 1, none⟩ = some (.int .i64 p.2.1) ∧ w.cell? ⟨b, off + j * 3 + 2, none⟩ = some (.string (strOfNums p.2.2)))

theorem Parts.up {w w' : World} {v : Value} {l : List (Bool × Int × List Int)} (h : Parts w v l) (hb : Below w.heap.size w w') : Parts w' v l := by
  obtain ⟨hx, a, cap, rfl, h1, h2, h3⟩ := h
  refine ⟨hx, a, cap, rfl, h1, h2, fun hl => ?_⟩
  obtain ⟨b, off, rfl, hc⟩ := h3 hl
  refine ⟨b, off, rfl, fun j p hj => ?_⟩
  obtain ⟨c0, c1, c2⟩ := hc j p hj
  have k : ∀ o x, w.cell? ⟨b, o, none⟩ = some x → w'.cell? ⟨b, o, none⟩ = some x := fun o x hc => (hb.cell (p := ⟨b, o, none⟩) (World.block_lt_of_cell? w ⟨b, o, none⟩ hc)).trans hc
  exact ⟨k _ _ c0, k _ _ c1, k _ _ c2⟩

theorem flat_get : ∀ (l : List (Bool × Int × List Int)) (j : Nat) (p : Bool × Int × List Int), l[j]? = some p →
    (l.flatMap pcells)[j * 3]? = some (.bool p.1) ∧ (l.flatMap pcells)[j * 3 + 1]? = some (.int .i64 p.2.1) ∧ (l.flatMap pcells)[j * 3 + 2]? = some (.string (strOfNums p.2.2))
  | [], j, p, h => by simp at h
  | q :: l, 0, p, h => by
    simp at h
    subst h
    simp [List.flatMap_cons, pcells]
  | q :: l, j + 1, p, h => by
    simp at h
    have := flat_get l j p h
    have e : ∀ k, ((q :: l).flatMap pcells)[(j + 1) * 3 + k]? = (l.flatMap pcells)[j * 3 + k]? := by
      intro k
      rw [List.flatMap_cons, List.getElem?_append_right (by simp [pcells]; omega)]
      congr 1
      simp [pcells]
      omega
    have e0 := e 0
    simp only [Nat.add_zero] at e0
    rw [e0, e 1, e 2]
    exact this

theorem flat_len (l : List (Bool × Int × List Int)) : (l.flatMap pcells).length = l.length * 3 := by
  induction l with
  | nil => rfl
  | cons q l ih => rw [List.flatMap_cons, List.length_append, ih, List.length_cons]; simp [pcells]; omega

theorem flat_one (l : List (Bool × Int × List Int)) : ∀ u ∈ l.flatMap pcells, u.oneCell' = true := by
  intro u hu
  obtain ⟨p, _, hu⟩ := List.mem_flatMap.1 hu
  simp [pcells] at hu
  rcases hu with rfl | rfl | rfl <;> rfl

/-- The slice v lies in memory of the call's own and holds the parts l in w. -/
def OwnP (w : World) (base : Nat) (e : TypeId) (v : Value) (l : List (Bool × Int × List Int)) : Prop := w.ownsRow base e 3 v l.length (l.flatMap pcells)

theorem OwnP.nil (w : World) (base : Nat) (e : TypeId) : OwnP w base e (.slice none 0 0) [] := World.ownsRow_nil _ _ _ _
theorem OwnP.up {w w' : World} {base : Nat} {e : TypeId} {v : Value} {l : List (Bool × Int × List Int)} (h : OwnP w base e v l) (hb : Below w.heap.size w w') : OwnP w' base e v l := own_up h hb

/-- What the call itself made, read as parts. -/
theorem Parts.own {w : World} {base : Nat} {e : TypeId} {v : Value} {l : List (Bool × Int × List Int)} (h : OwnP w base e v l) (hx : ∀ p ∈ l, Pwf p) : Parts w v l := by
  obtain ⟨_, h2⟩ := h
  refine ⟨hx, ?_⟩
  rcases h2 with ⟨rfl, h0⟩ | ⟨g, cap, cur, rfl, hg, hh, hn, hm, hs, ht⟩
  · have e : l = [] := List.length_eq_zero_iff.1 h0
    subst e
    exact ⟨none, 0, rfl, by simp, by simp, fun h => absurd rfl h⟩
  · refine ⟨some ⟨g, 0, none⟩, cap, rfl, hn, hm, fun hl => ⟨g, 0, rfl, fun j p hj => ?_⟩⟩
    have k : ∀ i x, (l.flatMap pcells)[i]? = some x → w.cell? ⟨g, 0 + i, none⟩ = some x := by
      intro i x hi
      rw [← ht, List.getElem?_take] at hi
      split at hi
      · simp only [World.cell?, hh, Nat.zero_add]
        simpa using hi
      · cases hi
    obtain ⟨c0, c1, c2⟩ := flat_get l j p hj
    exact ⟨k _ _ c0, by rw [Nat.add_assoc]; exact k _ _ c1, by rw [Nat.add_assoc]; exact k _ _ c2⟩

/-- The cells of a place in a slice of parts. -/
theorem Parts.at {w : World} {v : Value} {l : List (Bool × Int × List Int)} (h : Parts w v l) (k : Nat) (hk : k < l.length) : ∃ b off cap, v = .slice (some ⟨b, off, none⟩) l.length cap ∧ l.length ≤ cap ∧ cap ≤ maxLen ∧
    w.cell? ⟨b, off + k * 3, none⟩ = some (.bool (l.getD k (false, 0, [])).1) ∧ w.cell? ⟨b, off + k * 3 + 1, none⟩ = some (.int .i64 (l.getD k (false, 0, [])).2.1) ∧ w.cell? ⟨b, off + k * 3 + 2, none⟩ = some (.string (strOfNums (l.getD k (false, 0, [])).2.2)) := by
  obtain ⟨hx, a, cap, rfl, h1, h2, h3⟩ := h
  have hl : l ≠ [] := by intro e; rw [e] at hk; simp at hk
  obtain ⟨b, off, rfl, hc⟩ := h3 hl
  exact ⟨b, off, cap, rfl, h1, h2, hc k _ (by simp [List.getD, hk])⟩

theorem wpList_append_part (w0 : World) {ops : Array Oper} {rest : List Oper} {o : Oper} {a : Act} {Q : Exit → Act → World → Prop} (hgd : o.guard = none) (s x : Operand) (t e : TypeId)
    (ho : o.op = .call { callee := .builtin .append, args := #[s, x], argTypes := #[t, t] }) (ht : Try.prog.underlying t = some (.slice e))
    (hinf : (Try.prog.info? e).map (fun i => (i.zero, i.size, i.bytes)) = some (some (.agg #[.bool false, .int .i64 0, .string ⟨#[]⟩]), 3, 32))
    (base : Nat) (v : Value) (l0 : List (Bool × Int × List Int)) (hs : a.eval s = v) (hown : OwnP w0 base e v l0)
    (p : Bool × Int × List Int) (hx : a.eval x = .slice (some ⟨w0.heap.size, 0, none⟩) 1 1) (hsz : l0.length + 1 ≤ 4398046511104) (hbase : base ≤ w0.heap.size)
    (h : ∀ v' w', OwnP w' base e v' (l0 ++ [p]) → Below base w0 w' → wpList Try.prog ops Q rest (a.put o.dst v') w') :
    wpList Try.prog ops Q (o :: rest) a (w0.alloc (.cells (pcells p).toArray e)) := by
  obtain ⟨i0, hi, hz0, hz1, hz2⟩ := info_some hinf
  refine wpList_append_own_wide _ hgd s x t ho base e i0 _ 3 32 ht hi hz0 hz1 hz2 rfl (by decide) v l0.length _ hs (World.ownsRow.alloc hown _) ⟨w0.heap.size, 0, none⟩ 1 1 (pcells p) hx rfl ?_ ?_ ?_ ?_ ?_ ?_
  · intro j u hj
    have := cells_new w0 (pcells p) [] e j u hj
    simpa using this
  · intro u hu
    exact flat_one [p] u (by simpa using hu)
  · unfold maxLen; omega
  · omega
  · simp; omega
  · intro v' w' h1 h2 _
    refine h v' w' ?_ ?_
    · unfold OwnP
      rw [List.length_append, List.flatMap_append]
      simpa using h1
    · refine Below.grown ((Below.refl base w0).alloc hbase _) h2 (by simp; omega) (fun k hk => ?_)
      exact (hown.lt k hk).1

set_option maxHeartbeats 400000 in
theorem of_any (l : List (Bool × Int × List Int)) (v : Value) (w : World) (hv : Parts w v l) (hl : l.length ≤ 4398046511104) :
    Calls Try.prog 9 #[v] w fun e w' => ∃ v', e = .returned v' ∧ OwnP w' w.heap.size 49 v' l ∧ Below w.heap.size w w' := by
  have HV : Hid (Parts w v l) := hv
  obtain ⟨_, a, cap, rfl, hcap, hcm, h3⟩ := hv
  clear h3
  unfold maxLen at hcm
  go_enter Try.func9, Try.ntmps9
  go_wp2
  go_loopw [3, 4] (fun vb i wr => ∃ k : Nat, k ≤ l.length ∧ i = .int .i64 k ∧ Hid (OwnP wr w.heap.size 49 vb (l.take k)) ∧ Hid (Below w.heap.size w wr)) (fun _ i _ => l.length - (intOf i).toNat)
  case atStart => exact ⟨0, Nat.zero_le _, rfl, OwnP.nil _ _ _, Below.refl _ _⟩
  case round =>
    obtain ⟨k, hk, rfl, HW, HB⟩ := hrel
    by_cases hlt : k < l.length
    · obtain ⟨b, off, cap', e, _, _, c0, c1, c2⟩ := (HV.out.up HB.out).at k hlt
      simp at e
      obtain ⟨rfl, rfl⟩ := e
      have hlt' : (k : Int) < (l.length : Int) := by omega
      have HT : Hid (l.take (k + 1) = l.take k ++ [l.getD k (false, 0, [])]) := take_snoc l k _ hlt
      have hkl : (l.take k).length ≤ k := List.length_take_le k l
      generalize l.getD k (false, 0, []) = y at *
      go_wp2_with (at_builtin; refine wpList_append_part _ rfl _ _ 23 49 rfl Try.underlying23 Try.info49 w.heap.size _ (l.take k) rfl HW.out y rfl ?c1 ?c2 ?_)
      case c1 => omega
      case c2 => exact HB.out.size
      intro v' w3 hown hb3
      rw [← HT.out] at hown
      have HW3 : Hid (OwnP w3 w.heap.size 49 v' (l.take (k + 1))) := hown
      have HB3 : Hid (Below w.heap.size w w3) := HB.out.trans hb3
      clear hown hb3
      go_wp2
      exact ⟨⟨k + 1, by omega, by go_num, HW3, HB3⟩, by simp [intOf]; omega⟩
    · obtain rfl : k = l.length := by omega
      rw [List.take_length] at HW
      go_wp2
      go_ret
      exact ⟨_, rfl, HW.out, HB.out⟩
end Go.Proofs.Ytjnbjooagdgfpaa
