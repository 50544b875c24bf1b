/- The page's example. -/
import Derived.Test.YtoceddpjkodfkaaR5
import Derived.Lib.SlBytesConst
namespace Go.Proofs.Ytoceddpjkodfkaa
open Go.RowKit
set_option linter.unusedVariables false
set_option linter.unusedSimpArgs false

theorem num_any (x : Int) (w : World) : Calls Try.prog 20 #[.int .i64 x] w fun e w' => e = .returned (.int .i64 x) ∧ w' = w := by
  go_enter Try.func20, Try.ntmps20
  go_wp2
  go_ret
  exact ⟨rfl, rfl⟩

theorem Rws.taken {sz : Nat} {w : World} {a : Option Addr} {n c : Nat} {css : List (List Value)} (h : Rws sz w (.slice a n c) css) (k : Nat) (hk : k ≤ css.length) : Rws sz w (.slice a k c) (css.take k) := by
  obtain ⟨h1, a', c', e, h2, h3, h4, h5⟩ := h
  injection e with e1 e2 e3
  subst e1
  subst e3
  have hl : (css.take k).length = k := by rw [List.length_take]; omega
  refine ⟨fun cs hcs => h1 cs (List.mem_of_mem_take hcs), a, c, by rw [hl], by omega, h3, h4, ?_⟩
  intro hne
  obtain ⟨b, off, e, hc⟩ := h5 (by intro q; rw [q] at hne; simp at hne)
  refine ⟨b, off, e, fun j cs hj i u hi => hc j cs ?_ i u hi⟩
  rw [List.getElem?_take] at hj
  split at hj
  · exact hj
  · cases hj

theorem ActsW.taken {w : World} {a : Option Addr} {n c : Nat} {l : List Ac} (h : ActsW w (.slice a n c) l) (k : Nat) (hk : k ≤ l.length) : ActsW w (.slice a k c) (l.take k) := by
  obtain ⟨m, rfl, h2, h3⟩ := h
  rw [List.length_map] at hk
  refine ⟨m.take k, by rw [List.map_take], ?_, fun y hy => h3 y (List.mem_of_mem_take hy)⟩
  rw [List.map_take]
  exact h2.taken k (by rw [List.length_map]; exact hk)

def xyzL : List Ac := [⟨1, [97], [], []⟩, ⟨2, [97], [], [120, 121, 122]⟩, ⟨3, [97], [], []⟩, ⟨6, [], [], []⟩]

set_option maxRecDepth 4000 in
theorem xyz_any (w : World) : Calls Try.prog 56 #[] w fun e w' => ∃ b, e = .returned (.slice (some ⟨b, 0, none⟩) 4 4) ∧ ActsW w' (.slice (some ⟨b, 0, none⟩) 4 4) xyzL ∧ Below w.heap.size w w' := by
  have kc := fun (w : World) (C : Array Value) (n c : Nat) => Lib.run_convert_bytes_const (P := Try.prog) w 26 5 C n c Try.underlying26 Try.underlying5
  go_enter Try.func56, Try.ntmps56
  go_wp2_with fail
  go_ret
  obtain ⟨W1, hW1⟩ : ∃ W1, W1 = w.alloc (.cells #[.int .u8 120, .int .u8 121, .int .u8 122] 5 (3, 4)) := ⟨_, rfl⟩
  have hs1 : W1.heap.size = w.heap.size + 1 := by rw [hW1]; simp
  have u1 : Below w.heap.size w W1 := by rw [hW1]; exact up_al (Below.refl _ _) _
  have b1 : W1.heap[w.heap.size]? = some (.cells #[.int .u8 120, .int .u8 121, .int .u8 122] 5 (3, 4)) := by rw [hW1]; exact blk_new w _
  rw [← hW1]
  obtain ⟨W2, hW2⟩ : ∃ W2, W2 = W1.alloc (.cells #[.int .i64 1, .string ⟨#[97]⟩, .string ⟨#[]⟩, .slice none 0 0, .int .i64 2, .string ⟨#[97]⟩, .string ⟨#[]⟩, .slice (some ⟨w.heap.size, 0, none⟩) 3 3, .int .i64 3, .string ⟨#[97]⟩, .string ⟨#[]⟩, .slice none 0 0, .int .i64 6, .string ⟨#[]⟩, .string ⟨#[]⟩, .slice none 0 0] 28) := ⟨_, rfl⟩
  have u2 : Below W1.heap.size W1 W2 := by rw [hW2]; exact up_al (Below.refl _ _) _
  have b2 : W2.heap[w.heap.size + 1]? = some (.cells #[.int .i64 1, .string ⟨#[97]⟩, .string ⟨#[]⟩, .slice none 0 0, .int .i64 2, .string ⟨#[97]⟩, .string ⟨#[]⟩, .slice (some ⟨w.heap.size, 0, none⟩) 3 3, .int .i64 3, .string ⟨#[97]⟩, .string ⟨#[]⟩, .slice none 0 0, .int .i64 6, .string ⟨#[]⟩, .string ⟨#[]⟩, .slice none 0 0] 28) := by rw [hW2, ← hs1]; exact blk_new W1 _
  rw [← hW2]
  refine ⟨w.heap.size + 1, rfl, ?_, up_trans u1 u2⟩
  have b3 := blk_up b1 u2
  have o0 : Octs W2 (.slice none 0 0) [] := ⟨(fun x hx => by cases hx), .inl ⟨rfl, none, 0, rfl, fun _ => rfl⟩⟩
  have o3 : Octs W2 (.slice (some ⟨w.heap.size, 0, none⟩) 3 3) [120, 121, 122] := by
    refine ⟨by decide, .inr ⟨by decide, w.heap.size, 0, 3, rfl, by decide, by decide, ?_⟩⟩
    intro j x hj
    match j, hj with
    | 0, hj => simp at hj; subst hj; exact blk_cell b3 0 _ rfl
    | 1, hj => simp at hj; subst hj; exact blk_cell b3 1 _ rfl
    | 2, hj => simp at hj; subst hj; exact blk_cell b3 2 _ rfl
    | j + 3, hj => simp at hj
  have k1 : OctL [97] := by unfold OctL; decide
  have k0 : OctL [] := by unfold OctL; decide
  have s1 : strOfNums [97] = ⟨#[97]⟩ := by decide
  have s0 : strOfNums [] = ⟨#[]⟩ := by decide
  refine ⟨[(.slice none 0 0, ⟨1, [97], [], []⟩), (.slice (some ⟨w.heap.size, 0, none⟩) 3 3, ⟨2, [97], [], [120, 121, 122]⟩), (.slice none 0 0, ⟨3, [97], [], []⟩), (.slice none 0 0, ⟨6, [], [], []⟩)], rfl, ⟨?_, some ⟨w.heap.size + 1, 0, none⟩, 4, rfl, by simp, by decide, (fun h => by cases h), fun _ => ⟨_, _, rfl, ?_⟩⟩, ?_⟩
  · intro cs hcs
    simp at hcs
    rcases hcs with rfl | rfl | rfl | rfl <;> rfl
  · intro j cs hj i u hi
    have hj4 : j < 4 := by
      have := (List.getElem?_eq_some_iff.1 hj).1
      simpa using this
    have hc4 : cs.length = 4 := by
      have := List.mem_of_getElem? hj
      simp at this
      rcases this with rfl | rfl | rfl | rfl <;> rfl
    have hi4 : i < 4 := by
      have := (List.getElem?_eq_some_iff.1 hi).1
      omega
    rw [Nat.zero_add]
    refine blk_cell b2 (j * 4 + i) u ?_
    obtain rfl | rfl | rfl | rfl : j = 0 ∨ j = 1 ∨ j = 2 ∨ j = 3 := by omega
    all_goals
      simp [arow] at hj
      subst hj
      obtain rfl | rfl | rfl | rfl : i = 0 ∨ i = 1 ∨ i = 2 ∨ i = 3 := by omega
      all_goals
        simp [s1, s0] at hi
        subst hi
        rfl
  · intro y hy
    simp at hy
    have ok : ∀ x d, In64 x → d.length ≤ 140737488355328 → okAc ⟨x, [97], [], d⟩ := fun x d hx hd => ⟨hx, k1, by simp, k0, by simp, hd⟩
    rcases hy with rfl | rfl | rfl | rfl
    · exact ⟨o0, ok _ _ (by unfold In64; decide) (by decide)⟩
    · exact ⟨o3, ok _ _ (by unfold In64; decide) (by decide)⟩
    · exact ⟨o0, ok _ _ (by unfold In64; decide) (by decide)⟩
    · exact ⟨o0, by unfold In64; decide, k0, by simp, k0, by simp, by simp⟩
end Go.Proofs.Ytoceddpjkodfkaa
