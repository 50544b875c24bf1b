/- Slices of numbers: held against each other, copied. -/
import Derived.Test.YtfnddbglopoghaaLBase
namespace Go.Proofs.Ytfnddbglopoghaa
open Go.RowKit
set_option linter.unusedVariables false

def irow (n : Int) : List Value := [.int .i64 n]
/-- The slice v holds in w the numbers l. -/
def IntsR (w : World) (v : Value) (l : List Int) : Prop := Rws 1 w v (l.map irow)
theorem IntsR.up {w w' : World} {v : Value} {l : List Int} (h : IntsR w v l) (hb : Below w.heap.size w w') : IntsR w' v l := Rws.up h hb
theorem IntsR.len {w : World} {v : Value} {l : List Int} (h : IntsR w v l) : ∃ a cap, v = .slice a l.length cap ∧ l.length ≤ cap ∧ cap ≤ maxLen := by
  obtain ⟨a, c, e, h1, h2⟩ := Rws.len h
  simp only [List.length_map] at e h1
  exact ⟨a, c, e, h1, h2⟩
theorem IntsR.at {w : World} {v : Value} {l : List Int} (h : IntsR w v l) (k : Nat) (hk : k < l.length) :
    ∃ b off cap n, v = .slice (some ⟨b, off, none⟩) l.length cap ∧ l[k]? = some n ∧ w.cell? ⟨b, off + k, none⟩ = some (.int .i64 n) := by
  obtain ⟨b, off, cap, e, _, _, hc⟩ := Rws.at h k (by simpa using hk)
  simp only [List.length_map] at e
  refine ⟨b, off, cap, l[k], e, by simp [hk], ?_⟩
  have := hc 0 (.int .i64 l[k]) (by simp [List.getD, hk, irow])
  simpa using this

theorem drewN_more (w : World) (d n : Nat) : (w.drewN d).drewN n = w.drewN (d + n) := by
  simp [World.drewN, Nat.add_assoc]

theorem one_int (l : List Int) : ∀ cs ∈ l.map irow, ∀ u ∈ cs, u.oneCell' = true := by
  intro cs h u hu
  simp only [List.mem_map] at h
  obtain ⟨n, _, rfl⟩ := h
  simp only [irow, List.mem_singleton] at hu
  subst hu
  rfl
theorem Try.info3 : (Try.prog.info? 3).map (fun i => (i.zero, i.size, i.bytes)) = some (some (.int .i64 0), 1, 8) := by kernel_rfl

set_option maxRecDepth 100000 in
theorem copyInts_any (l : List Int) (v : Value) (w : World) (hv : IntsR w v l) (hl : l.length ≤ 17592186044416) :
    Calls Try.prog 19 #[v] w fun e w' => ∃ a c, e = .returned (.slice a l.length c) ∧ Hid (OwnR w' w.heap.size 3 1 (.slice a l.length c) (l.map irow)) ∧ Hid (Below w.heap.size w w') := by
  have HV : Hid (Rws 1 w v (l.map irow)) := hv
  have HC1 : Hid (((([] : List (List Value)).length + (l.map irow).length) + (([] : List (List Value)).length + (l.map irow).length) / 4 + 192) * 8 ≤ 281474976710656) := by
    unfold Hid; simp only [List.length_nil, List.length_map]; omega
  have HC2 : Hid (([] : List (List Value)).length + (l.map irow).length ≤ maxLen) := by
    unfold Hid maxLen; simp only [List.length_nil, List.length_map]; omega
  have H1 : Hid (∀ cs ∈ l.map irow, ∀ u ∈ cs, u.oneCell' = true) := one_int l
  have HN : Hid ((l.map irow).length = l.length) := List.length_map _
  obtain ⟨av, cv, rfl, _, _⟩ := hv.len
  clear hv
  generalize l.map irow = T at *
  go_enter Try.func19, Try.ntmps19
  go_wp2_with (at_builtin; refine wpList_append_rows _ rfl _ _ 37 3 _ 1 8 rfl Try.underlying37 Try.info3 rfl (by decide) w.heap.size (.slice none 0 0) [] rfl (OwnR.nil _ _ _ _) (.slice av l.length cv) T rfl HV.out H1.out HC1.out HC2.out (Nat.le_refl _) ?_)
  intro v1 w1 O1 G1
  have U1 : Hid (Below w.heap.size w w1) := (Below.refl _ _).grown G1 (Nat.le_refl _) (by simp [Value.ownBlock])
  have O1' : OwnR w1 w.heap.size 3 1 v1 T := O1
  obtain ⟨a1, c1, rfl, _, _⟩ := (Rws.own O1').len
  rw [HN.out] at O1' ⊢
  have O2 : Hid (OwnR w1 w.heap.size 3 1 (.slice a1 l.length c1) T) := O1'
  clear O1 G1 O1'
  go_wp2
  go_ret
  exact ⟨a1, c1, rfl, O2, U1⟩
end Go.Proofs.Ytfnddbglopoghaa
