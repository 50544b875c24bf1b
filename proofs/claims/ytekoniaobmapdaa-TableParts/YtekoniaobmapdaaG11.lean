/- The texts FMath, VRefGet, GRead, GTake, XTold, XTold2, XDec, XSeek, XCopy, BLeaf, BHash, BMay, BIter, BRange, in this order. -/
import Derived.Test.YtekoniaobmapdaaG10
import Derived.Test.YtekoniaobmapdaaG09
import Derived.Test.YtekoniaobmapdaaG08
import Derived.Deep.Cut
import Derived.Test.YtekoniaobmapdaaG07
import Derived.Deep.RegionHeld3
import Derived.RangeFuncNested
import Derived.RangeFuncBound
import Derived.RangeFuncCalls
import Derived.RangeFuncLeaves
import Derived.Shelf.Abstract
import Derived.Shelf.RegionOpen
import Derived.OwnWalkIn
import Derived.TacticsInMore
import Derived.LoopNIn
import Derived.LoopIn

/- A record comes back from its octets, whatever stands behind (plain lists). -/
namespace Go.Proofs.Ytekoniaobmapdaa
open Go.RowKit SumPlain
set_option linter.unusedVariables false
set_option maxRecDepth 20000

theorem frame_len (k : Int) (l : List Int) : (frameOf k l).length = (octets (l.length : Int)).length + 1 + l.length + 4 := by
  unfold frameOf
  rw [guard_len]
  simp
  omega

theorem frame_octet (k : Int) (l : List Int) (hk : 0 ≤ k ∧ k ≤ 255) (hl : l.length ≤ 65536) (hx : ∀ x ∈ l, 0 ≤ x ∧ x ≤ 255) : ∀ x ∈ frameOf k l, 0 ≤ x ∧ x ≤ 255 := by
  refine guard_octet _ ?_
  intro x hx'
  rcases List.mem_append.1 hx' with h | h
  · exact (octets_form _ (by omega) (by omega)).octet x h
  · rcases List.mem_cons.1 h with h | h
    · omega
    · exact hx x h

theorem getOf_frame (k : Int) (l more : List Int) (hl : l.length ≤ 65536) : getOf (frameOf k l ++ more) = ((l.length : Int), (((octets (l.length : Int)).length : Nat) : Int), 0) := by
  have h := getOf_back (l.length : Int) (by omega) (by omega) (k :: l ++ lastL (ext ones (octets (l.length : Int) ++ k :: l)) ++ more)
  have e : octets (l.length : Int) ++ (k :: l ++ lastL (ext ones (octets (l.length : Int) ++ k :: l)) ++ more) = frameOf k l ++ more := by
    unfold frameOf guardOf
    simp
  rw [e] at h
  rw [getRet_injF h, ← (octets_form (l.length : Int) (by omega) (by omega)).size]

theorem fget_back (k : Int) (l more : List Int) (hl : l.length ≤ 65536) : fget (frameOf k l ++ more) = (k, l, ((frameOf k l).length : Int), 0) := by
  have hF := frame_len k l
  have hm : ((((octets (l.length : Int)).length : Nat) : Int) + 1 + (l.length : Int) + 4).toNat = (frameOf k l).length := by omega
  have hb : bareOf ((frameOf k l ++ more).take (frameOf k l).length) = (octets (l.length : Int) ++ k :: l, 0) := by
    rw [List.take_left]
    exact bare_guard _
  rw [fget_good (getOf_frame k l more hl) (by omega) (by rw [List.length_append]; omega) hm hb]
  have e1 : (octets (l.length : Int) ++ k :: l).getD (octets (l.length : Int)).length 0 = k := by simp
  have e2 : (octets (l.length : Int) ++ k :: l).drop ((octets (l.length : Int)).length + 1) = l := by
    rw [← List.drop_drop, List.drop_left]
    rfl
  rw [e1, e2, hF]
  simp

/-- Put refuses. -/
theorem fput_bad (k : Int) (a : Option Addr) (n c : Nat) (h : ¬ (0 ≤ k ∧ k ≤ 255 ∧ n ≤ 65536)) :
    ∃ x : Int, (x = 22 ∨ x = 5) ∧ ∀ w : World, Calls Try.prog 53 #[.agg #[.int .i64 k, .slice a n c]] w fun e w' => e = .returned (.tuple #[.slice none 0 0, .int .i64 x]) ∧ Below w.heap.size w w' := by
  by_cases h1 : k < 0 ∨ 255 < k
  · exact ⟨22, .inl rfl, fun w => fput_kind k a n c w h1⟩
  · exact ⟨5, .inr rfl, fun w => fput_long k a n c w (by omega) (by omega) (by omega)⟩
end Go.Proofs.Ytekoniaobmapdaa

/- The document's Get (package ticklerref01) returns, for any octets in a slice, what the plain function 'getOf' says, and writes nothing. -/
namespace Go.Proofs.Ytekoniaobmapdaa
open Go.RowKit
set_option linter.unusedVariables false

theorem and_mask_table : ∀ k : Fin 8, ∀ f : Fin 256, f.val % 2 ^ k.val = (f.val &&& (2 ^ k.val - 1)) := by decide +kernel
theorem and_mask (k : Nat) (f m y : Int) (hk : k < 8) (h0 : 0 ≤ f) (h1 : f ≤ 255) (hm : m = ((2 ^ k - 1 : Nat) : Int)) (hm2 : m ≤ 255) (hy : (((f.toNat % 2 ^ k : Nat)) : Int) = y) : bits .and .u64 f m = y := by
  obtain ⟨F, rfl⟩ := Int.eq_ofNat_of_zero_le h0
  subst hm
  rw [bits_and_u64_nat _ _ (by omega) (by omega)]
  have h := and_mask_table ⟨k, hk⟩ ⟨F, by omega⟩
  have h' : F % 2 ^ k = F &&& (2 ^ k - 1) := h
  rw [← h', ← hy]
  rfl

end Go.Proofs.Ytekoniaobmapdaa

/- The document's reader of layer 6: numbers. -/
namespace Go.Proofs.Ytekoniaobmapdaa
open Go.RowKit SumPlain
set_option linter.unusedVariables false

theorem numQ_err {most code : Int} (hc : code ≠ 0) {l : List Int} {y : Int} (h : numQ most code l = .error y) : y ≠ 0 := by
  unfold numQ at h
  split at h
  · split at h
    · injection h with h; subst h; exact hc
    · cases h
  · rename_i h0
    injection h with h
    subst h
    exact h0

theorem octs_drop {w : World} {b off c n : Nat} {l : List Int} (h : Octs w (.slice (some ⟨b, off, none⟩) l.length c) l) (hn : n ≤ l.length) (hc : l.length ≤ c) : Octs w (.slice (some ⟨b, off + n, none⟩) (l.length - n) (c - n)) (l.drop n) := h.back rfl n hn hc

end Go.Proofs.Ytekoniaobmapdaa

/- The document's reader of layer 6: octets taken, texts. -/
namespace Go.Proofs.Ytekoniaobmapdaa
open Go.RowKit SumPlain
set_option linter.unusedVariables false

/-- The middle of a slice, as Go cuts it. -/
theorem octs_mid {w : World} {b off c k m : Nat} {X : List Int} (h : Octs w (.slice (some ⟨b, off, none⟩) X.length c) X) (hk : k + m ≤ X.length) (hc : X.length ≤ c) : Octs w (.slice (some ⟨b, off + k, none⟩) m (c - k)) ((X.drop k).take m) := by
  have h1 := octs_drop h (n := k) (by omega) hc
  have e : (X.drop k).length = X.length - k := List.length_drop
  have h2 := h1.cut e.symm m (by omega)
  exact h2

end Go.Proofs.Ytekoniaobmapdaa

/- The document's reader, one ending a call; what seven calls say of one version. -/
namespace Go.Proofs.Ytekoniaobmapdaa
open Go.RowKit SumPlain
set_option linter.unusedVariables false

/-- The reader behind a number. -/
def NumS (X : List Int) (most : Int) (j : Nat) (y : Int) (n j' : Nat) (y' : Int) : Prop :=
  (n : Int) ≤ most ∧ ((y' = 0 ∧ y = 0 ∧ numQ most 21 (X.drop j) = .ok ((n : Int), X.drop j')) ∨ (y' ≠ 0 ∧ (y ≠ 0 ∨ ∃ z, numQ most 21 (X.drop j) = .error z)))
/-- The reader behind octets. -/
def TakeS (X : List Int) (m j : Nat) (y : Int) (l : List Int) (j' : Nat) (y' : Int) : Prop :=
  (y' = 0 ∧ y = 0 ∧ j + m ≤ X.length ∧ j' = j + m ∧ l = (X.drop j).take m) ∨ (y' ≠ 0 ∧ l = [] ∧ (y ≠ 0 ∨ X.length - j < m))

theorem numQ_len {most code : Int} {l r : List Int} {n : Int} (h : numQ most code l = .ok (n, r)) : r.length ≤ l.length := by
  unfold numQ at h
  split at h
  · split at h
    · cases h
    · simp only [Except.ok.injEq, Prod.mk.injEq] at h
      rw [← h.2, List.length_drop]
      omega
  · cases h

/-- Seven calls of the reader. -/
structure Seven (X : List Int) (j0 n k s v : Nat) (d r u : List Int) (j7 : Nat) (y7 : Int) : Prop where
  ex : ∃ (j1 j2 j3 j4 j5 j6 : Nat) (y1 y2 y3 y4 y5 y6 : Int), NumS X 65536 j0 0 n j1 y1 ∧ NumS X 65536 j1 y1 k j2 y2 ∧ NumS X 1099511627776 j2 y2 s j3 y3 ∧ NumS X 65536 j3 y3 v j4 y4 ∧ TakeS X 1 j4 y4 d j5 y5 ∧ TakeS X k j5 y5 r j6 y6 ∧ TakeS X v j6 y6 u j7 y7 ∧ j0 ≤ X.length ∧ j1 ≤ X.length ∧ j2 ≤ X.length ∧ j3 ≤ X.length ∧ j4 ≤ X.length

theorem Seven.bad {X prev : List Int} {j0 n k s v : Nat} {d r u : List Int} {j7 : Nat} {y7 : Int} (h : Seven X j0 n k s v d r u j7 y7) (hy : y7 ≠ 0) : entP prev (X.drop j0) = none := by
  obtain ⟨j1, j2, j3, j4, j5, j6, y1, y2, y3, y4, y5, y6, N1, N2, N3, N4, T1, T2, T3, l0, l1, l2, l3, l4⟩ := h
  unfold entP
  rcases N1.2 with ⟨rfl, _, q1⟩ | ⟨_, e | ⟨z, q1⟩⟩
  · rw [q1]
    simp only
    rcases N2.2 with ⟨rfl, _, q2⟩ | ⟨_, e | ⟨z, q2⟩⟩
    · rw [q2]
      simp only
      rcases N3.2 with ⟨rfl, _, q3⟩ | ⟨_, e | ⟨z, q3⟩⟩
      · rw [q3]
        simp only
        rcases N4.2 with ⟨rfl, _, q4⟩ | ⟨_, e | ⟨z, q4⟩⟩
        · rw [q4]
          simp only
          rcases T1 with ⟨rfl, _, t1, rfl, _⟩ | ⟨_, _, e | t1⟩
          · rw [drop_at X j4 (by omega)]
            simp only
            rw [if_pos]
            rw [List.length_drop]
            rcases T2 with ⟨rfl, _, t2, rfl, _⟩ | ⟨_, _, e | t2⟩
            · rcases T3 with ⟨rfl, _, t3, rfl, _⟩ | ⟨_, _, e | t3⟩
              · exact absurd rfl hy
              · exact absurd rfl e
              · right; left; omega
            · exact absurd rfl e
            · left; omega
          · exact absurd rfl e
          · rw [List.drop_of_length_le (by omega)]
        · exact absurd rfl e
        · rw [q4]
      · exact absurd rfl e
      · rw [q3]
    · exact absurd rfl e
    · rw [q2]
  · exact absurd rfl e
  · rw [q1]

theorem Seven.fine {X : List Int} {j0 n k s v : Nat} {d r u : List Int} {j7 : Nat} (h : Seven X j0 n k s v d r u j7 0) (prev : List Int) : ∃ x, d = [x] ∧ j0 < j7 ∧ j7 ≤ X.length ∧ (s : Int) ≤ 1099511627776 ∧ n ≤ 65536 ∧
    entP prev (X.drop j0) = if prev.length < n then none else some (⟨strOfNums (prev.take n ++ r), (s : Int), x, strOfNums u⟩, prev.take n ++ r, X.drop j7) := by
  obtain ⟨j1, j2, j3, j4, j5, j6, y1, y2, y3, y4, y5, y6, N1, N2, N3, N4, T1, T2, T3, l0, l1, l2, l3, l4⟩ := h
  rcases T3 with ⟨_, rfl, t3, rfl, rfl⟩ | ⟨e, _⟩
  · rcases T2 with ⟨_, rfl, t2, rfl, rfl⟩ | ⟨e, _⟩
    · rcases T1 with ⟨_, rfl, t1, rfl, rfl⟩ | ⟨e, _⟩
      · obtain ⟨m4, ⟨_, rfl, q4⟩ | ⟨e, _⟩⟩ := N4
        · obtain ⟨m3, ⟨_, rfl, q3⟩ | ⟨e, _⟩⟩ := N3
          · obtain ⟨m2, ⟨_, rfl, q2⟩ | ⟨e, _⟩⟩ := N2
            · obtain ⟨m1, ⟨_, _, q1⟩ | ⟨e, _⟩⟩ := N1
              · have g1 := numQ_len q1
                have g2 := numQ_len q2
                have g3 := numQ_len q3
                have g4 := numQ_len q4
                simp only [List.length_drop] at g1 g2 g3 g4
                have hd := drop_at X j4 (by omega)
                refine ⟨X.getD j4 0, ?_, by omega, by omega, m3, by omega, ?_⟩
                · rw [hd]
                  simp
                · unfold entP
                  rw [q1]
                  simp only
                  rw [q2]
                  simp only
                  rw [q3]
                  simp only
                  rw [q4]
                  simp only
                  rw [hd]
                  simp only
                  by_cases hp : prev.length < n
                  · rw [if_pos (by right; right; omega), if_pos hp]
                  · rw [if_neg (by rw [List.length_drop]; omega), if_neg hp]
                    simp only [Int.toNat_natCast, List.drop_drop]
              · exact absurd rfl e
            · exact absurd rfl e
          · exact absurd rfl e
        · exact absurd rfl e
      · exact absurd rfl e
    · exact absurd rfl e
  · exact absurd rfl e

/-- What is told, round by round. -/
theorem toldP_stop {f : Nat} {key : List Int} {out : List En} {l : List Int} (hf : 0 < f) (h : l = [] ∨ 64 < out.length) : toldP f key out l = out := by
  cases f with
  | zero => omega
  | succ f => unfold toldP; rw [if_pos h]
theorem toldP_bad {f : Nat} {key : List Int} {out : List En} {l : List Int} (hf : 0 < f) (h : ¬ (l = [] ∨ 64 < out.length)) (he : entP key l = none) : toldP f key out l = [] := by
  cases f with
  | zero => omega
  | succ f => unfold toldP; rw [if_neg h, he]
theorem toldP_step {f : Nat} {key key' : List Int} {out : List En} {l r : List Int} {x : En} (h : ¬ (l = [] ∨ 64 < out.length)) (he : entP key l = some (x, key', r)) : toldP (f + 1) key out l = toldP f key' (out ++ [x]) r := by
  rw [toldP, if_neg h, he]
end Go.Proofs.Ytekoniaobmapdaa

/- The walk of the document's told of layer 9. -/
namespace Go.Proofs.Ytekoniaobmapdaa
open Go.RowKit SumPlain
set_option linter.unusedVariables false
set_option linter.unusedSimpArgs false

theorem Try.info39 : (Try.prog.info? 39).map (fun i => (i.zero, i.size, i.bytes)) = some (some (.agg #[.string ⟨#[]⟩, .int .i64 0, .int .i64 0, .string ⟨#[]⟩]), 4, 48) := by kernel_rfl
theorem enRow_one (y : En) : ∀ r ∈ [enRow y], ∀ u ∈ r, u.oneCell' = true := by
  intro r hr u hu
  simp only [List.mem_cons, List.mem_nil_iff, or_false] at hr
  subst hr
  simp only [enRow, List.mem_cons, List.mem_nil_iff, or_false] at hu
  rcases hu with rfl | rfl | rfl | rfl <;> rfl

theorem own_call {W W' : World} {base N : Nat} {v : Value} {l : List Int} (h : OwnB W base v l) (hg : W.grownBy W' (some N)) (hN : N < base) : OwnB W' base v l :=
  World.ownsRow.kept h hg (.inr fun e => by have := (h.lt _ e).1; omega)
theorem TakeS.oct {X : List Int} {m j : Nat} {y : Int} {l : List Int} {j' : Nat} {y' : Int} (h : TakeS X m j y l j' y') (hX : ∀ x ∈ X, 0 ≤ x ∧ x ≤ 255) : ∀ x ∈ l, 0 ≤ x ∧ x ≤ 255 := by
  rcases h with ⟨_, _, _, _, rfl⟩ | ⟨_, rfl, _⟩
  · exact fun x hx => hX x (List.mem_of_mem_drop (List.mem_of_mem_take hx))
  · simp
theorem TakeS.len {X : List Int} {m j : Nat} {y : Int} {l : List Int} {j' : Nat} {y' : Int} (h : TakeS X m j y l j' y') : l.length ≤ m := by
  rcases h with ⟨_, _, _, _, rfl⟩ | ⟨_, rfl, _⟩
  · rw [List.length_take]; omega
  · simp
theorem own_head {w : World} {base g o n c : Nat} {x : Int} (h : OwnB w base (.slice (some ⟨g, o, none⟩) n c) [x]) (hx : ∀ y ∈ [x], 0 ≤ y ∧ y ≤ 255) : w.cell? ⟨g, o, none⟩ = some (.int .u8 x) := by
  obtain ⟨b, off, cap, e, _, _, hc⟩ := (Octs.own h hx).at 0 (by simp)
  simp only [Value.slice.injEq, Option.some.injEq, Addr.mk.injEq] at e
  obtain ⟨⟨rfl, rfl, _⟩, _⟩ := e
  simpa using hc
theorem own_at {w : World} {base : Nat} {a : Option Addr} {n c : Nat} {x : Int} (h : OwnB w base (.slice a n c) [x]) (hx : ∀ y ∈ [x], 0 ≤ y ∧ y ≤ 255) : ∃ g o, a = some ⟨g, o, none⟩ ∧ n = 1 := by
  obtain ⟨b, off, cap, e, _, _, hc⟩ := (Octs.own h hx).at 0 (by simp)
  simp only [Value.slice.injEq] at e
  exact ⟨b, off, e.1, e.2.1⟩
def sliceLen : Value → Nat
  | .slice _ n _ => n
  | _ => 0
/-- How told ends. -/
def ToldEnd (l : List En) (w : World) (e : Ending) (w' : World) : Prop := ∃ a n c, e = .returned (.slice a n c) ∧ Hid (n = l.length ∧ OwnR w' w.heap.size 39 4 (.slice a n c) (l.map enRow)) ∧ Hid (Below w.heap.size w w')

end Go.Proofs.Ytekoniaobmapdaa

/- The document's Decode of layer 9. -/
namespace Go.Proofs.Ytekoniaobmapdaa
open Go.RowKit SumPlain
set_option linter.unusedVariables false
set_option linter.unusedSimpArgs false

theorem encB_oct (l : List En) : OctL (encB l).1 := by
  unfold encB
  by_cases h : chkB l = 0
  · rw [if_pos h]
    obtain ⟨_, _, hm⟩ := chkB_may h
    refine guard_octet _ ?_
    unfold blockO
    refine OctL.app (bodyO_oct l 0 [] hm) (OctL.app (tailO_oct l 0 [] 0) ?_)
    intro y hy
    simp at hy
    omega
  · rw [if_neg h]
    intro y hy
    cases hy
theorem bare_oct {l : List Int} (h : OctL l) : OctL (bareOf l).1 := by
  unfold bareOf
  split
  · intro y hy; cases hy
  · split
    · exact fun y hy => h y (List.mem_of_mem_take hy)
    · intro y hy; cases hy
theorem bare_le (l : List Int) : (bareOf l).1.length ≤ l.length := by
  unfold bareOf
  split
  · simp
  · split
    · simp
    · simp

/-- How the document's Decode ends. -/
def DecE (d : List En × Int) (w : World) (e : Ending) (w' : World) : Prop := ∃ a n c, e = .returned (.tuple #[.slice a n c, .int .i64 d.2]) ∧ Hid (n = d.1.length ∧ OwnR w' w.heap.size 39 4 (.slice a n c) (d.1.map enRow)) ∧ Hid (Below w.heap.size w w')

end Go.Proofs.Ytekoniaobmapdaa

/- The document's Seek of layer 9. -/
namespace Go.Proofs.Ytekoniaobmapdaa
open Go.RowKit SumPlain
set_option linter.unusedVariables false
set_option linter.unusedSimpArgs false

/-- What Seek answers: the version (or none), whether there is one, the error. -/
def seekB (b : List Int) (key : ByteArray) (seq : Int) : En × Bool × Int :=
  if (decB b).2 = 0 then ((firstV (decB b).1 key seq).1, (firstV (decB b).1 key seq).2, 0) else (default, false, (decB b).2)
theorem results_ent3 {fn : Func} {q r u : Nat} (h : fn.results = #[.cell q 39, .tmp r, .tmp u]) (tmps : Array Value) (w : World) {N : Nat} {a b c d : Value} (ht : tmps.getD q undef = .pointer (some ⟨N, 0, none⟩))
    (hc : w.heap[N]? = some (.cells #[a, b, c, d] 39)) : (results fn tmps).run Try.prog w = .ok (.tuple #[.agg #[a, b, c, d], tmps.getD r undef, tmps.getD u undef]) w := by
  have c0 := blk_cell hc 0 a rfl
  have c1 := blk_cell hc 1 b rfl
  have c2 := blk_cell hc 2 c rfl
  have c3 := blk_cell hc 3 d rfl
  have ht' : tmps[q]?.getD undef = .pointer (some ⟨N, 0, none⟩) := by simpa using ht
  simp only [results, h]
  simp [ht', go_sem, c0, c1, c2, c3]

end Go.Proofs.Ytekoniaobmapdaa

/- Copies, spoiling, numbers: the law's own small functions of layer 9. -/
namespace Go.Proofs.Ytekoniaobmapdaa
open Go.RowKit SumPlain
set_option linter.unusedVariables false
set_option linter.unusedSimpArgs false

theorem xor_u8 (a b : Int) : 0 ≤ bits .xor .u8 a b ∧ bits .xor .u8 a b ≤ 255 := by
  show 0 ≤ IntKind.u8.wrap _ ∧ IntKind.u8.wrap _ ≤ 255
  rw [IntKind.wrap_u8']
  omega

set_option maxHeartbeats 1000000 in
theorem copyEnts_any (l : List En) (v : Value) (w : World) (hv : EntsR w v l) (hl : l.length ≤ 4398046511104) :
    Calls Try.prog 17 #[v] w fun e w' => ∃ a n c, e = .returned (.slice a n c) ∧ EntsR w' (.slice a n c) l ∧ Below w.heap.size w w' ∧ ∀ b, (Value.slice a n c).ownBlock = some b → w.heap.size ≤ b := by
  have HV : Hid (Rws 4 w v (l.map enRow)) := hv
  have HB : Hid ((((([] : List (List Value)).length + (l.map enRow).length) + (([] : List (List Value)).length + (l.map enRow).length) / 4 + 192) * 48 ≤ 281474976710656) ∧ ([] : List (List Value)).length + (l.map enRow).length ≤ maxLen) := by
    unfold Hid
    rw [List.length_map]
    unfold maxLen
    simp only [List.length_nil]
    omega
  clear hv
  go_enter Try.func17, Try.ntmps17
  go_wp2_with (at_builtin; refine wpList_append_rows w rfl _ _ 22 39 _ 4 48 rfl Try.underlying22 Try.info39 rfl (by decide) w.heap.size (.slice none 0 0) [] rfl (OwnR.nil _ _ _ _) v (l.map enRow) rfl HV.out ?c1 HB.out.1 HB.out.2 (Nat.le_refl _) ?_)
  case c1 =>
    intro cs hcs u hu
    obtain ⟨s, _, rfl⟩ := List.mem_map.1 hcs
    exact enRow_one s _ (by simp) u hu
  intro v' w' hown hg
  have HT : Hid (EntsR w' v' l) := Rws.own hown
  have HL : Hid (∀ b, v'.ownBlock = some b → w.heap.size ≤ b) := fun b hb => (hown.2.lt b hb).1
  have HU : Hid (Below w.heap.size w w') := (Below.refl _ _).grown hg (Nat.le_refl _) (by simp [Value.ownBlock])
  clear hown hg
  obtain ⟨a, c, e, _, _⟩ := HT.out.len
  obtain ⟨n, hn⟩ : ∃ n, n = l.length := ⟨_, rfl⟩
  rw [← hn] at e
  subst e
  clear hn
  go_wp2
  go_ret
  exact ⟨a, n, c, rfl, HT.out, HU.out, HL.out⟩

end Go.Proofs.Ytekoniaobmapdaa

/- The leaves: octets copied, compared, spoiled; a filter as the law copies and compares it. -/
namespace Go.Proofs.Ytekoniaobmapdaa
open Go.RowKit
set_option linter.unusedVariables false
set_option maxRecDepth 20000

theorem set2_blkB {w : World} {N : Nat} {t : TypeId} {x0 x1 : Value} (h : w.heap[N]? = some (.cells #[x0, x1] t)) (a b : Value) : (set2 w N a b).heap[N]? = some (.cells #[a, b] t) :=
  blk_set (blk_set h 0 a) 1 b
theorem set2_grownB (w : World) (N : Nat) (a b : Value) : w.grownBy (set2 w N a b) (some N) :=
  grown_trans (grown_set w ⟨N, 0, none⟩ a) (grown_set _ ⟨N, 1, none⟩ b)

/-- A record through the result's own block, and two numbers. -/
theorem results_rec3B {fn : Func} {t : TypeId} (h : fn.results = #[.cell 2 t, .tmp 3, .tmp 4]) (hl : t = 30 ∨ t = 46) (tmps : Array Value) (w : World) {N : Nat} {a b : Value} (ht : tmps.getD 2 undef = .pointer (some ⟨N, 0, none⟩))
    (hc : w.heap[N]? = some (.cells #[a, b] t)) : (results fn tmps).run Try.prog w = .ok (.tuple #[.agg #[a, b], tmps.getD 3 undef, tmps.getD 4 undef]) w := by
  have c0 := blk_cell hc 0 a rfl
  have c1 := blk_cell hc 1 b rfl
  have ht' : tmps[2]?.getD undef = .pointer (some ⟨N, 0, none⟩) := by simpa using ht
  rcases hl with rfl | rfl
  · simp only [results, h]
    simp [ht', go_sem, c0, c1]
  · simp only [results, h]
    simp [ht', go_sem, c0, c1]

theorem results_recB {fn : Func} {t : TypeId} (h : fn.results = #[.cell 2 t]) (hl : t = 30 ∨ t = 46) (tmps : Array Value) (w : World) {N : Nat} {a b : Value} (ht : tmps.getD 2 undef = .pointer (some ⟨N, 0, none⟩))
    (hc : w.heap[N]? = some (.cells #[a, b] t)) : (results fn tmps).run Try.prog w = .ok (.agg #[a, b]) w := by
  have c0 := blk_cell hc 0 a rfl
  have c1 := blk_cell hc 1 b rfl
  have ht' : tmps[2]?.getD undef = .pointer (some ⟨N, 0, none⟩) := by simpa using ht
  rcases hl with rfl | rfl
  · simp only [results, h]
    simp [ht', go_sem, c0, c1]
  · simp only [results, h]
    simp [ht', go_sem, c0, c1]

end Go.Proofs.Ytekoniaobmapdaa

/- The hash of a key: the program's and the document's. -/
namespace Go.Proofs.Ytekoniaobmapdaa
open Go.RowKit
set_option linter.unusedVariables false
set_option maxRecDepth 20000

/-- One octet more. -/
def hashS (h x : Int) : Int := bits .xor .u64 h x * 1099511628211 % 18446744073709551616
def hashL (l : List Int) : Int := l.foldl hashS 14695981039346656037

theorem hash_nil : hashL [] = 14695981039346656037 := rfl
theorem hash_a : hashL [97] = 12638187200555641996 := by decide +kernel
theorem hash_snoc (l : List Int) (x : Int) : hashL (l ++ [x]) = hashS (hashL l) x := by unfold hashL; rw [List.foldl_append]; rfl
theorem hash_u64 (l : List Int) : 0 ≤ hashL l ∧ hashL l ≤ 18446744073709551615 := by
  rcases List.eq_nil_or_concat l with rfl | ⟨r, x, rfl⟩
  · rw [hash_nil]; omega
  · rw [List.concat_eq_append, hash_snoc]; unfold hashS; omega

theorem wrap64 (n : Int) : IntKind.u64.wrap n = n % 18446744073709551616 := by simp [IntKind.wrap, IntKind.bits, IntKind.signed]
theorem val_u64 {a b : Int} (h : a = b) : Value.int .u64 a = .int .u64 b := by rw [h]

set_option maxHeartbeats 400000 in
theorem hash_any (l : List Int) (hx : OctL l) (hm : l.length ≤ 140737488355328) (w : World) :
    Calls Try.prog 45 #[.string (strOfNums l)] w fun e w' => e = .returned (.int .u64 (hashL l)) ∧ w' = w := by
  have hsz := str_size l
  go_enter Try.func45, Try.ntmps45
  go_wp2
  go_loopw [3, 7] (fun h i wr => ∃ k : Nat, k ≤ l.length ∧ i = .int .i64 k ∧ h = .int .u64 (hashL (l.take k)) ∧ wr = w) (fun _ i _ => l.length - (intOf i).toNat)
  case atStart => exact ⟨0, Nat.zero_le _, rfl, rfl, rfl⟩
  case round =>
    obtain ⟨k, hk, rfl, rfl, rfl⟩ := hrel
    by_cases hlt : k < l.length
    · have hlt' : (k : Int) < (l.length : Int) := by omega
      have hj : k < (strOfNums l).size := by omega
      have hy := str_at l hx k hj
      obtain ⟨y0, y1⟩ : 0 ≤ l.getD k 0 ∧ l.getD k 0 ≤ 255 := hx _ (by simp [List.getD, hlt])
      have HS : Hid (hashL (l.take (k + 1)) = hashS (hashL (l.take k)) (l.getD k 0)) := by unfold Hid; rw [take_snoc l k 0 hlt, hash_snoc]
      obtain ⟨z0, z1⟩ := hash_u64 (l.take k)
      generalize hashL (l.take k) = h at *
      generalize l.getD k 0 = x at *
      go_wp2
      exact ⟨⟨k + 1, by omega, by go_num, val_u64 (by rw [HS.out, hashS, wrap64]), trivial⟩, by simp [intOf]; omega⟩
    · have hlt' : ¬ (k : Int) < (l.length : Int) := by omega
      obtain rfl : k = l.length := by omega
      rw [List.take_length]
      go_wp2
      go_ret
      exact ⟨rfl, rfl⟩

end Go.Proofs.Ytekoniaobmapdaa

/- Whether a filter may be: the program's and the document's; a key's places. -/
namespace Go.Proofs.Ytekoniaobmapdaa
open Go.RowKit
set_option linter.unusedVariables false
set_option maxRecDepth 20000

def mayB (k : Int) (n : Nat) : Bool := decide (1 ≤ k) && (decide (k ≤ 8) && (decide (1 ≤ n) && decide (n ≤ 8192)))

theorem mayBe_any (k : Int) (a : Option Addr) (n c : Nat) (w : World) :
    Calls Try.prog 23 #[.agg #[.int .i64 k, .slice a n c]] w fun e w' => e = .returned (.bool (mayB k n)) ∧ w' = w.alloc (.cells #[.int .i64 k, .slice a n c] 30) := by
  go_enter Try.func23, Try.ntmps23
  by_cases c1 : 1 ≤ k
  · by_cases c2 : k ≤ 8
    · by_cases c3 : 1 ≤ n
      · have c3' : (1 : Int) ≤ (n : Int) := by omega
        by_cases c4 : n ≤ 8192
        · have c4' : (n : Int) ≤ 8192 := by omega
          have HM : Hid (true = mayB k n) := by unfold Hid mayB; simp [c1, c2, c3, c4]
          go_wp2
          go_ret
          exact ⟨ret_bool HM.out, rfl⟩
        · have c4' : ¬ (n : Int) ≤ 8192 := by omega
          have HM : Hid (false = mayB k n) := by unfold Hid mayB; simp [c4]
          go_wp2
          go_ret
          exact ⟨ret_bool HM.out, rfl⟩
      · have c3' : ¬ (1 : Int) ≤ (n : Int) := by omega
        have HM : Hid (false = mayB k n) := by unfold Hid mayB; simp [c3]
        go_wp2
        go_ret
        exact ⟨ret_bool HM.out, rfl⟩
    · have HM : Hid (false = mayB k n) := by unfold Hid mayB; simp [c2]
      go_wp2
      go_ret
      exact ⟨ret_bool HM.out, rfl⟩
  · have HM : Hid (false = mayB k n) := by unfold Hid mayB; simp [c1]
    go_wp2
    go_ret
    exact ⟨ret_bool HM.out, rfl⟩

/-- What the document answers. -/
def chkE (k : Int) (n : Nat) : Int := if mayB k n then 0 else 9

/-- A key's places: its hash, which of them, how many octets. -/
def lowN (h : Int) : Nat := h.toNat % 4294967296
def highN (h : Int) : Nat := h.toNat / 4294967296 ||| 1
def plc (h : Int) (i n : Nat) : Nat := (lowN h + i * highN h) % (8 * n)

theorem lowN_lt (h : Int) : lowN h ≤ 4294967295 := by unfold lowN; omega
theorem highN_lt {h : Int} (h1 : h ≤ 18446744073709551615) : highN h ≤ 4294967295 := by
  have h2 : h.toNat / 4294967296 < 2 ^ 32 := by omega
  have := Nat.or_lt_two_pow h2 (show 1 < 2 ^ 32 by decide)
  unfold highN
  omega
theorem low_eq {h : Int} (h0 : 0 ≤ h) (h1 : h ≤ 18446744073709551615) : bits .and .u64 h 4294967295 = (lowN h : Int) := by
  rw [u64_and h 4294967295 h0 (by omega) (by omega) (by omega)]
  unfold lowN
  rw [show ((4294967295 : Int).toNat) = 2 ^ 32 - 1 from rfl, Nat.and_two_pow_sub_one_eq_mod]
theorem high_eq {h : Int} (h0 : 0 ≤ h) (h1 : h ≤ 18446744073709551615) : bits .or .u64 (h / 4294967296) 1 = (highN h : Int) := by
  rw [u64_or (h / 4294967296) 1 (by omega) (by omega) (by omega) (by omega)]
  unfold highN
  have e : (h / 4294967296).toNat = h.toNat / 4294967296 := by omega
  rw [e]
  rfl

theorem mul_le {i hi : Nat} (h1 : i ≤ 7) (h2 : hi ≤ 4294967295) : i * hi ≤ 30064771065 := by
  have := Nat.mul_le_mul h1 h2
  omega

theorem wrap_mul {i hi : Nat} (h1 : i ≤ 7) (h2 : hi ≤ 4294967295) : IntKind.u64.wrap ((i : Int) * (hi : Int)) = ((i * hi : Nat) : Int) := by
  have := mul_le h1 h2
  rw [wrap64, ← Int.natCast_mul]
  omega
theorem wrap_add {a b : Nat} (h1 : a ≤ 4294967295) (h2 : b ≤ 30064771065) : IntKind.u64.wrap ((a : Int) + (b : Int)) = ((a + b : Nat) : Int) := by
  rw [wrap64]
  omega

theorem places_any (l : List Int) (hx : OctL l) (hm : l.length ≤ 140737488355328) (k : Int) (a : Option Addr) (n c : Nat) (w : World) :
    Calls Try.prog 24 #[.agg #[.int .i64 k, .slice a n c], .string (strOfNums l)] w fun e w' => e = .returned (.func (.func 46) #[] #[.pointer (some ⟨w.heap.size, 0, none⟩), .pointer (some ⟨w.heap.size + 1, 0, none⟩), .pointer (some ⟨w.heap.size + 2, 0, none⟩)]) ∧
      w' = ((w.alloc (.cells #[.int .i64 k, .slice a n c] 30)).alloc (.cells #[.int .u64 (lowN (hashL l))] 90)).alloc (.cells #[.int .u64 (highN (hashL l))] 90) := by
  obtain ⟨z0, z1⟩ := hash_u64 l
  have HC : Hid (∀ w : World, Calls Try.prog 45 #[.string (strOfNums l)] w fun e w' => e = .returned (.int .u64 (hashL l)) ∧ w' = w) := fun w => hash_any l hx hm w
  generalize hashL l = h at *
  have e1 := low_eq z0 z1
  have e2 := high_eq z0 z1
  generalize lowN h = lo at *
  generalize highN h = hi at *
  go_enter Try.func24, Try.ntmps24
  go_wp2_with fail
  refine (HC.out _).mono ?_
  rintro e w1 ⟨rfl, rfl⟩
  go_wp2
  go_ret
  exact ⟨rfl, rfl⟩

end Go.Proofs.Ytekoniaobmapdaa

/- The function that hands out a key's places: it calls yield with each of them, in order, until it is told to stop. -/
namespace Go.Proofs.Ytekoniaobmapdaa
open Go.RowKit Go.Shelf
set_option linter.unusedVariables false
set_option maxRecDepth 20000
attribute [local go_sem] Oper.semAt_some

/-- A place's bit in its octet. -/
def bitN (p : Nat) : Nat := 2 ^ (p % 8)

theorem bit_le (p : Nat) : bitN p ≤ 128 := by
  unfold bitN
  have h : p % 8 < 8 := Nat.mod_lt _ (by decide)
  generalize p % 8 = j at *
  have : ∀ j, j < 8 → 2 ^ j ≤ 128 := by decide
  exact this j h
theorem bit_eq (p : Nat) : ((bitN p : Nat) : Int) = 2 ^ (p % 8) % 256 := by
  have h := bit_le p
  have e : ((bitN p : Nat) : Int) = (2 : Int) ^ (p % 8) := by unfold bitN; rw [Int.natCast_pow]; rfl
  rw [← e]
  generalize bitN p = x at *
  omega

set_option maxHeartbeats 2000000 in
theorem iter_in (m l Bf : Nat) (K : Nat) (hK8 : K ≤ 8) (h : Int) (h0 : 0 ≤ h) (h1 : h ≤ 18446744073709551615) (a : Option Addr) (n c : Nat) (hn : 1 ≤ n) (hn2 : n ≤ 8192) (J : Nat → World → Prop) (D : World → Prop) (W : World)
    (hY : ∀ (i : Nat) (W0 : World), i < K → J i W0 → YieldAt Fence.wide (m - 1) Try.prog l #[.int .i64 ((plc h i n / 8 : Nat) : Int), .int .u8 ((bitN (plc h i n) : Nat) : Int)] W0 fun e W' => (e = .returned (.bool true) ∧ J (i + 1) W') ∨ (e = .returned (.bool false) ∧ D W'))
    (hK : ∀ i W', J i W' → W'.cell? ⟨Bf, 0, none⟩ = some (.int .i64 K) ∧ W'.cell? ⟨Bf, 1, none⟩ = some (.slice a n c) ∧ W'.cell? ⟨Bf + 1, 0, none⟩ = some (.int .u64 (lowN h)) ∧ W'.cell? ⟨Bf + 2, 0, none⟩ = some (.int .u64 (highN h)))
    (hJ : J 0 W) :
    CallsIn Fence.wide m Try.prog 46 #[.func (.yield l) #[] #[], .pointer (some ⟨Bf, 0, none⟩), .pointer (some ⟨Bf + 1, 0, none⟩), .pointer (some ⟨Bf + 2, 0, none⟩)] W fun e W' => (∃ v, e = .returned v) ∧ (J K W' ∨ D W') := by
  refine callsIn_of_wp Try.func46 rfl trivial ?_ rfl
  simp only [Try.ntmps46, List.size_toArray, List.length_cons, List.length_nil, Nat.reduceAdd, Nat.reduceSub, Array.replicate_succ, Array.replicate_zero, List.push_toArray, List.append_toArray, List.nil_append, List.cons_append]
  obtain ⟨k0, k1, k2, k3⟩ := hK 0 W hJ
  gi_wp2
  gi_loopw [9] (fun p wr => ∃ (i : Nat), p = .int .i64 (i : Int) ∧ i ≤ K ∧ Hid (J i wr)) (fun p wr => K - (intOf p).toNat)
  case atStart => exact ⟨0, rfl, Nat.zero_le _, hJ⟩
  case round =>
    obtain ⟨i, rfl, hi, hj⟩ := hrel
    clear k0 k1 k2 k3
    obtain ⟨k0, k1, k2, k3⟩ := hK i wr hj.out
    by_cases hlt : i < K
    · have hlt' : (i : Int) < (K : Int) := by omega
      have hi7 : i ≤ 7 := by omega
      have Y : Hid (YieldAt Fence.wide (m - 1) Try.prog l #[.int .i64 ((plc h i n / 8 : Nat) : Int), .int .u8 ((bitN (plc h i n) : Nat) : Int)] wr fun e W' => (e = .returned (.bool true) ∧ J (i + 1) W') ∨ (e = .returned (.bool false) ∧ D W')) := hY i wr hlt hj.out
      clear hY hK
      have b1 := lowN_lt h
      have b2 := highN_lt h1
      have HP : Hid (plc h i n = (lowN h + i * highN h) % (8 * n)) := rfl
      generalize plc h i n = p at *
      generalize lowN h = lo at *
      generalize highN h = hg at *
      have e3 := wrap_mul hi7 b2
      have b3 := mul_le hi7 b2
      generalize i * hg = q at *
      have e4 := wrap_add b1 b3
      have b4 : lo + q ≤ 34359738360 := by omega
      generalize lo + q = s at *
      have b5 : p < 8 * n := by rw [HP.out]; exact Nat.mod_lt _ (by omega)
      have e5 : Int.tmod (s : Int) ((n : Int) * 8) = (p : Int) := by
        rw [HP.out]
        rw [Int.tmod_eq_emod_of_nonneg (by omega), Int.natCast_emod, Int.natCast_mul, Int.mul_comm]
        rfl
      have hb : ((bitN p : Nat) : Int) = 2 ^ (p % 8) % 256 := bit_eq p
      have hd : ((p / 8 : Nat) : Int) = (p : Int) / 8 := by omega
      rw [hb, hd] at Y
      clear hb hd
      obtain ⟨fn, tmps, asg, bod, hy, hR⟩ := Y.out
      clear Y
      gi_wp2
      refine ⟨fun h => (by cases h), hR.mono ?_⟩
      rintro e W3 (⟨rfl, hJ3⟩ | ⟨rfl, hD3⟩)
      · have HJ3 : Hid (J (i + 1) W3) := hJ3
        clear hJ3
        gi_wp2
        exact ⟨⟨i + 1, by simp, by omega, HJ3⟩, by simp [intOf]; omega⟩
      · have HD3 : Hid (D W3) := hD3
        clear hD3
        gi_wp2
        refine bodyPost_ret (results_none rfl _ _ _) rfl ?_
        exact ⟨⟨_, rfl⟩, .inr HD3.out⟩
    · have hlt' : ¬ (i : Int) < (K : Int) := by omega
      obtain rfl : i = K := by omega
      clear hY hK
      gi_wp2
      go_end0
      exact ⟨⟨_, rfl⟩, .inl hj.out⟩
end Go.Proofs.Ytekoniaobmapdaa

/- A loop over a function whose body goes on or returns; the marks that such loops leave among a call's deferred ones. -/
namespace Go.Proofs.Ytekoniaobmapdaa
open Go.RowKit Go.Shelf
set_option linter.unusedVariables false
set_option maxRecDepth 20000
attribute [local go_sem] Oper.semAt_some

theorem range_law {g : Operand} {ps : Array Tmp} {assign body : Code} {Q : Exit → Act → World → Prop} {a : Act} {w : World} {n gf : Nat} {lb : Array Value} (hg : a.eval g = .func (.func gf) #[] lb)
    (eg : ∀ args w, (callFunc gf args).run Try.prog w = .ok (.enter gf args) w)
    (h : ∀ r : Loop, r.state = .ready → r.pending = none → r.tmps = a.tmps → r.params = ps → r.assign = assign → r.body = body →
      CallsIn Fence.wide (n - 1) Try.prog gf (#[.func (.yield (w.heap.size + 1)) #[] #[]] ++ lb) ((w.alloc (.deferred (some []))).alloc (.loop r))
      fun e W' => (∃ v, e = .returned v) ∧ ∃ r' : Loop, W'.heap[w.heap.size + 1]? = some (.loop r') ∧ r'.state ≠ .busy ∧
        ((r'.pending = none ∧ Q .normal { a with defers := { target := .collected w.heap.size, args := #[] } :: a.defers } (W'.putObj (w.heap.size + 1) (.loop { r' with state := .exhausted }))) ∨
         (r'.pending = some .ret ∧ Q .ret { a with defers := { target := .collected w.heap.size, args := #[] } :: a.defers } (W'.putObj (w.heap.size + 1) (.loop { r' with state := .exhausted }))))) :
    (Code.rangeFunc g ps assign body).wpIn Fence.wide n Try.prog Q a w := by
  refine wpIn_rangeFunc ?_
  intro fn hfn
  have hent := run_enterLoop_outer (P := Try.prog) (w := w) fn a.tmps ps assign body
  obtain ⟨r, hr⟩ : ∃ r : Loop, r = { state := .ready, pending := none, fn, tmps := a.tmps, params := ps, assign, body, defers := w.heap.size } := ⟨_, rfl⟩
  have hh := h r (by rw [hr]) (by rw [hr]) (by rw [hr]) (by rw [hr]) (by rw [hr]) (by rw [hr])
  rw [← hr] at hent
  clear h hr
  generalize (w.alloc (.deferred (some []))).alloc (.loop r) = W1 at *
  refine ⟨w.heap.size + 1, [{ target := .collected w.heap.size, args := #[] }], W1, { target := .fn (.func gf) lb, args := #[.func (.yield (w.heap.size + 1)) #[] #[]] }, W1, gf, #[.func (.yield (w.heap.size + 1)) #[] #[]] ++ lb, W1, hent, ?_, fun _ _ => trivial, ?_, fun h => (by cases h), ?_⟩
  · simp only [resolve, hg]
    simp [go_sem]
  · simp [invoke, go_sem, eg]
  · refine hh.mono ?_
    rintro e W' ⟨⟨v, rfl⟩, r', h1, h2, h4⟩
    refine ⟨r'.pending, _, run_endLoop (P := Try.prog) h1 h2, ?_⟩
    rcases h4 with ⟨h3, h4⟩ | ⟨h3, h4⟩
    · rw [h3] at h4 ⊢
      exact h4
    · rw [h3] at h4 ⊢
      exact wpIn_ret h4

/-- The marks of loops over functions. -/
def marks (ds : List Nat) : List Deferred := ds.map fun b => { target := .collected b, args := #[] }

/-- A world that is another one but for the blocks ds. -/
structure But (ds : List Nat) (W W' : World) : Prop where
  os : W'.os = W.os
  tape : W'.tape = W.tape
  output : W'.output = W.output
  size : W'.heap.size = W.heap.size
  block : ∀ k, k ∉ ds → W'.heap[k]? = W.heap[k]?

theorem leaves_marks {n : Nat} {fn : Func} {tmps : Array Value} {R : Ending → World → Prop} : ∀ (ds : List Nat) (W : World), ds.Nodup → (∀ b ∈ ds, W.heap[b]? = some (.deferred (some []))) →
    (∀ W', But ds W W' → LeavesInM Fence.wide n Try.prog fn tmps R [] .returning W') → LeavesInM Fence.wide n Try.prog fn tmps R (marks ds) .returning W
  | [], W, _, _, h => h W ⟨rfl, rfl, rfl, rfl, fun _ _ => rfl⟩
  | b :: ds, W, hn, hb, h => by
    refine ⟨by simp, .inl ⟨b, W.putObj b (.deferred none), rfl, run_takeDeferred (hb b (List.mem_cons_self ..)), ?_⟩⟩
    obtain ⟨hbn, hn'⟩ := List.nodup_cons.1 hn
    refine leaves_marks ds _ hn' (fun c hc => ?_) (fun W' hW' => h W' ?_)
    · have hne : c ≠ b := fun e => hbn (by rw [← e]; exact hc)
      rw [World.putObj_heap_other hne]
      exact hb c (List.mem_cons_of_mem _ hc)
    · refine ⟨hW'.os, hW'.tape, hW'.output, by rw [hW'.size]; simp [World.putObj], fun k hk => ?_⟩
      have hne : k ≠ b := fun e => hk (by rw [e]; exact List.mem_cons_self ..)
      rw [hW'.block k (fun e => hk (List.mem_cons_of_mem _ e)), World.putObj_heap_other hne]

theorem But.grown {ds : List Nat} {W W' : World} (h : But ds W W') {B : Nat} (hB : ∀ b ∈ ds, B ≤ b) : Below B W W' :=
  ⟨h.os, h.tape, h.output, Nat.le_of_eq h.size.symm, fun k hk => h.block k (fun e => by have := hB k e; omega)⟩

theorem But.cell {ds : List Nat} {W W' : World} (h : But ds W W') {B i : Nat} (hB : B ∉ ds) : W'.cell? ⟨B, i, none⟩ = W.cell? ⟨B, i, none⟩ := by
  unfold World.cell?
  simp only [h.block B hB]
end Go.Proofs.Ytekoniaobmapdaa
