/- The document's order: the places of the nodes in the order of their versions. -/
import Derived.Test.YtfnddbglopoghaaLInts
namespace Go.Proofs.Ytfnddbglopoghaa
open Go.RowKit
set_option linter.unusedVariables false
set_option linter.unusedSimpArgs false

instance inhEnS : Inhabited En := ⟨⟨⟨#[]⟩, 0, 0, ⟨#[]⟩⟩⟩
/-- Where a version goes among places that are in order. -/
def posF (l : List En) (x : En) (out : List Nat) : Nat := out.findIdx fun k => !beforeE (l.getD k default) x
def insF (l : List En) (out : List Nat) (i : Nat) : List Nat := out.take (posF l (l.getD i default) out) ++ [i] ++ out.drop (posF l (l.getD i default) out)
def orderF (l : List En) : Nat → List Nat
  | 0 => []
  | n + 1 => insF l (orderF l n) n
theorem posF_le (l : List En) (x : En) (out : List Nat) : posF l x out ≤ out.length := List.findIdx_le_length
theorem orderF_len (l : List En) : ∀ n, (orderF l n).length = n := by
  intro n
  induction n with
  | zero => rfl
  | succ n ih =>
    have := posF_le l (l.getD n default) (orderF l n)
    simp only [orderF, insF, List.length_append, List.length_take, List.length_drop, List.length_cons, List.length_nil, ih] at *
    omega
theorem orderF_lt (l : List En) : ∀ n j, j ∈ orderF l n → j < n := by
  intro n
  induction n with
  | zero => intro j h; cases h
  | succ n ih =>
    intro j h
    simp only [orderF, insF, List.mem_append, List.mem_singleton] at h
    rcases h with (h | h) | h
    · have := ih j (List.mem_of_mem_take h); omega
    · omega
    · have := ih j (List.mem_of_mem_drop h); omega

def nrow (p : En × Value) : List Value := enRow p.1 ++ [p.2]
/-- The slice v holds in w nodes of these versions and ways. -/
def NodesE (w : World) (v : Value) (es : List (En × Value)) : Prop := Rws 5 w v (es.map nrow)
theorem NodesE.up {w w' : World} {v : Value} {es : List (En × Value)} (h : NodesE w v es) (hb : Below w.heap.size w w') : NodesE w' v es := Rws.up h hb
theorem NodesE.len {w : World} {v : Value} {es : List (En × Value)} (h : NodesE w v es) : ∃ a cap, v = .slice a es.length cap ∧ es.length ≤ cap ∧ cap ≤ maxLen := by
  obtain ⟨a, c, e, h1, h2⟩ := Rws.len h
  simp only [List.length_map] at e h1
  exact ⟨a, c, e, h1, h2⟩
theorem NodesE.at {w : World} {v : Value} {es : List (En × Value)} (h : NodesE w v es) (k : Nat) (hk : k < es.length) :
    ∃ b off cap n s, v = .slice (some ⟨b, off, none⟩) es.length cap ∧ es[k]? = some (n, s) ∧ w.cell? ⟨b, off + k * 5, none⟩ = some (.string n.key) ∧ w.cell? ⟨b, off + k * 5 + 1, none⟩ = some (.int .i64 n.seq) ∧ w.cell? ⟨b, off + k * 5 + 2, none⟩ = some (.int .i64 n.kind) ∧ w.cell? ⟨b, off + k * 5 + 3, none⟩ = some (.string n.val) ∧ w.cell? ⟨b, off + k * 5 + 4, none⟩ = some s := by
  obtain ⟨b, off, cap, e, _, _, hc⟩ := Rws.at h k (by simpa using hk)
  simp only [List.length_map] at e
  have hg : (es.map nrow).getD k [] = nrow es[k] := by simp [List.getD, hk]
  rw [hg] at hc
  refine ⟨b, off, cap, es[k].1, es[k].2, e, by simp [hk], ?_, ?_, ?_, ?_, ?_⟩
  · simpa using hc 0 _ rfl
  · simpa using hc 1 _ rfl
  · simpa using hc 2 _ rfl
  · simpa using hc 3 _ rfl
  · simpa using hc 4 _ rfl
theorem Rws.dropN {sz : Nat} {w : World} {b off n cap : Nat} {css : List (List Value)} (h : Rws sz w (.slice (some ⟨b, off, none⟩) n cap) css) (p : Nat) (hp : p ≤ css.length) : Rws sz w (.slice (some ⟨b, off + p * sz, none⟩) (n - p) (cap - p)) (css.drop p) := by
  obtain ⟨h1, a, c, e, h2, h3, _, h5⟩ := h
  simp only [Value.slice.injEq] at e
  obtain ⟨rfl, rfl, rfl⟩ := e
  refine ⟨fun cs hc => h1 cs (List.mem_of_mem_drop hc), _, _, by rw [List.length_drop], by rw [List.length_drop]; omega, by omega, by simp, ?_⟩
  intro hne
  have hcs : css ≠ [] := by intro e; rw [e] at hne; simp at hne
  obtain ⟨b', off', e', hc⟩ := h5 hcs
  simp only [Option.some.injEq, Addr.mk.injEq] at e'
  obtain ⟨rfl, rfl, _⟩ := e'
  refine ⟨b, off + p * sz, rfl, ?_⟩
  intro j cs hj i u hu
  rw [List.getElem?_drop] at hj
  have := hc (p + j) cs hj i u hu
  rw [Nat.add_mul] at this
  rw [Nat.add_assoc off]
  exact this
def inrow (n : Nat) : List Value := [.int .i64 (n : Int)]
theorem ownS_at {w : World} {base : Nat} {a : Option Addr} {n c : Nat} {out : List Nat} (h : OwnR w base 3 1 (.slice a n c) (out.map inrow)) (k : Nat) (j : Nat) (hj : out[k]? = some j) :
    ∃ b off, a = some ⟨b, off, none⟩ ∧ w.cell? ⟨b, off + k, none⟩ = some (.int .i64 (j : Int)) := by
  have hk : k < out.length := by
    have := List.getElem?_eq_some_iff.1 hj
    exact this.1
  obtain ⟨b, off, cap, e, _, _, hc⟩ := (Rws.own h).at k (by simpa using hk)
  simp only [Value.slice.injEq] at e
  refine ⟨b, off, e.1, ?_⟩
  have hg : (out.map inrow).getD k [] = inrow j := by simp [List.getD, hj]
  rw [hg] at hc
  simpa using hc 0 _ rfl
theorem one_in (l : List Nat) : ∀ cs ∈ l.map inrow, ∀ u ∈ cs, u.oneCell' = true := by
  intro cs h u hu
  simp only [List.mem_map] at h
  obtain ⟨n, _, rfl⟩ := h
  simp only [inrow, List.mem_singleton] at hu
  subst hu
  rfl

end Go.Proofs.Ytfnddbglopoghaa
