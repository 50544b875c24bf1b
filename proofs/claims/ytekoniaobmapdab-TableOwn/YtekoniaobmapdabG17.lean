/- The texts GRead, GTake, XTold, XTold2, XDec, XSeek, XCopy, BLeaf, BHash, BMay, BIter, BRange, BHas, in this order. -/
import Derived.Test.YtekoniaobmapdabG08
import Derived.Test.YtekoniaobmapdabG14
import Derived.Test.YtekoniaobmapdabVRefGet
import Derived.Deep.Cut
import Derived.Test.YtekoniaobmapdabXEnc
import Derived.Test.YtekoniaobmapdabG07
import Derived.Deep.RegionHeld3
import Derived.Test.YtekoniaobmapdabG09
import Derived.RangeFuncNested
import Derived.RangeFuncBound
import Derived.RangeFuncCalls
import Derived.RangeFuncLeaves
import Derived.Shelf.Abstract
import Derived.Shelf.RegionOpen
import Derived.OwnWalkIn
import Derived.TacticsInMore
import Derived.LoopNIn
import Derived.LoopIn

/- The document's reader of layer 6: numbers. -/
namespace Go.Proofs.Ytekoniaobmapdab
open Go.RowKit SumPlain
set_option linter.unusedVariables false

end Go.Proofs.Ytekoniaobmapdab

/- The document's reader of layer 6: octets taken, texts. -/
namespace Go.Proofs.Ytekoniaobmapdab
open Go.RowKit SumPlain
set_option linter.unusedVariables false

end Go.Proofs.Ytekoniaobmapdab

/- The document's reader, one ending a call; what seven calls say of one version. -/
namespace Go.Proofs.Ytekoniaobmapdab
open Go.RowKit SumPlain
set_option linter.unusedVariables false

/-- The reader behind a number. -/
def NumS (X : List Int) (most : Int) (j : Nat) (y : Int) (n j' : Nat) (y' : Int) : Prop :=
  (n : Int) ≤ most ∧ ((y' = 0 ∧ y = 0 ∧ numQ most 21 (X.drop j) = .ok ((n : Int), X.drop j')) ∨ (y' ≠ 0 ∧ (y ≠ 0 ∨ ∃ z, numQ most 21 (X.drop j) = .error z)))
/-- The reader behind octets. -/
def TakeS (X : List Int) (m j : Nat) (y : Int) (l : List Int) (j' : Nat) (y' : Int) : Prop :=
  (y' = 0 ∧ y = 0 ∧ j + m ≤ X.length ∧ j' = j + m ∧ l = (X.drop j).take m) ∨ (y' ≠ 0 ∧ l = [] ∧ (y ≠ 0 ∨ X.length - j < m))

/-- Seven calls of the reader. -/
structure Seven (X : List Int) (j0 n k s v : Nat) (d r u : List Int) (j7 : Nat) (y7 : Int) : Prop where
  ex : ∃ (j1 j2 j3 j4 j5 j6 : Nat) (y1 y2 y3 y4 y5 y6 : Int), NumS X 65536 j0 0 n j1 y1 ∧ NumS X 65536 j1 y1 k j2 y2 ∧ NumS X 1099511627776 j2 y2 s j3 y3 ∧ NumS X 65536 j3 y3 v j4 y4 ∧ TakeS X 1 j4 y4 d j5 y5 ∧ TakeS X k j5 y5 r j6 y6 ∧ TakeS X v j6 y6 u j7 y7 ∧ j0 ≤ X.length ∧ j1 ≤ X.length ∧ j2 ≤ X.length ∧ j3 ≤ X.length ∧ j4 ≤ X.length

theorem Seven.bad {X prev : List Int} {j0 n k s v : Nat} {d r u : List Int} {j7 : Nat} {y7 : Int} (h : Seven X j0 n k s v d r u j7 y7) (hy : y7 ≠ 0) : entP prev (X.drop j0) = none := by
  obtain ⟨j1, j2, j3, j4, j5, j6, y1, y2, y3, y4, y5, y6, N1, N2, N3, N4, T1, T2, T3, l0, l1, l2, l3, l4⟩ := h
  unfold entP
  rcases N1.2 with ⟨rfl, _, q1⟩ | ⟨_, e | ⟨z, q1⟩⟩
  · rw [q1]
    simp only
    rcases N2.2 with ⟨rfl, _, q2⟩ | ⟨_, e | ⟨z, q2⟩⟩
    · rw [q2]
      simp only
      rcases N3.2 with ⟨rfl, _, q3⟩ | ⟨_, e | ⟨z, q3⟩⟩
      · rw [q3]
        simp only
        rcases N4.2 with ⟨rfl, _, q4⟩ | ⟨_, e | ⟨z, q4⟩⟩
        · rw [q4]
          simp only
          rcases T1 with ⟨rfl, _, t1, rfl, _⟩ | ⟨_, _, e | t1⟩
          · rw [drop_at X j4 (by omega)]
            simp only
            rw [if_pos]
            rw [List.length_drop]
            rcases T2 with ⟨rfl, _, t2, rfl, _⟩ | ⟨_, _, e | t2⟩
            · rcases T3 with ⟨rfl, _, t3, rfl, _⟩ | ⟨_, _, e | t3⟩
              · exact absurd rfl hy
              · exact absurd rfl e
              · right; left; omega
            · exact absurd rfl e
            · left; omega
          · exact absurd rfl e
          · rw [List.drop_of_length_le (by omega)]
        · exact absurd rfl e
        · rw [q4]
      · exact absurd rfl e
      · rw [q3]
    · exact absurd rfl e
    · rw [q2]
  · exact absurd rfl e
  · rw [q1]

end Go.Proofs.Ytekoniaobmapdab

/- The walk of the document's told of layer 9. -/
namespace Go.Proofs.Ytekoniaobmapdab
open Go.RowKit SumPlain
set_option linter.unusedVariables false
set_option linter.unusedSimpArgs false

theorem Try.info32 : (Try.prog.info? 32).map (fun i => (i.zero, i.size, i.bytes)) = some (some (.agg #[.string ⟨#[]⟩, .int .i64 0, .int .i64 0, .string ⟨#[]⟩]), 4, 48) := by kernel_rfl
theorem enRow_one (y : En) : ∀ r ∈ [enRow y], ∀ u ∈ r, u.oneCell' = true := by
  intro r hr u hu
  simp only [List.mem_cons, List.mem_nil_iff, or_false] at hr
  subst hr
  simp only [enRow, List.mem_cons, List.mem_nil_iff, or_false] at hu
  rcases hu with rfl | rfl | rfl | rfl <;> rfl

theorem TakeS.oct {X : List Int} {m j : Nat} {y : Int} {l : List Int} {j' : Nat} {y' : Int} (h : TakeS X m j y l j' y') (hX : ∀ x ∈ X, 0 ≤ x ∧ x ≤ 255) : ∀ x ∈ l, 0 ≤ x ∧ x ≤ 255 := by
  rcases h with ⟨_, _, _, _, rfl⟩ | ⟨_, rfl, _⟩
  · exact fun x hx => hX x (List.mem_of_mem_drop (List.mem_of_mem_take hx))
  · simp
theorem TakeS.len {X : List Int} {m j : Nat} {y : Int} {l : List Int} {j' : Nat} {y' : Int} (h : TakeS X m j y l j' y') : l.length ≤ m := by
  rcases h with ⟨_, _, _, _, rfl⟩ | ⟨_, rfl, _⟩
  · rw [List.length_take]; omega
  · simp
def sliceLen : Value → Nat
  | .slice _ n _ => n
  | _ => 0
end Go.Proofs.Ytekoniaobmapdab

/- The document's Decode of layer 9. -/
namespace Go.Proofs.Ytekoniaobmapdab
open Go.RowKit SumPlain
set_option linter.unusedVariables false
set_option linter.unusedSimpArgs false

theorem encB_oct (l : List En) : OctL (encB l).1 := by
  unfold encB
  by_cases h : chkB l = 0
  · rw [if_pos h]
    obtain ⟨_, _, hm⟩ := chkB_may h
    refine guard_octet _ ?_
    unfold blockO
    refine OctL.app (bodyO_oct l 0 [] hm) (OctL.app (tailO_oct l 0 [] 0) ?_)
    intro y hy
    simp at hy
    omega
  · rw [if_neg h]
    intro y hy
    cases hy
theorem bare_oct {l : List Int} (h : OctL l) : OctL (bareOf l).1 := by
  unfold bareOf
  split
  · intro y hy; cases hy
  · split
    · exact fun y hy => h y (List.mem_of_mem_take hy)
    · intro y hy; cases hy
theorem bare_le (l : List Int) : (bareOf l).1.length ≤ l.length := by
  unfold bareOf
  split
  · simp
  · split
    · simp
    · simp

end Go.Proofs.Ytekoniaobmapdab

/- The document's Seek of layer 9. -/
namespace Go.Proofs.Ytekoniaobmapdab
open Go.RowKit SumPlain
set_option linter.unusedVariables false
set_option linter.unusedSimpArgs false

theorem results_ent3 {fn : Func} {q r u : Nat} (h : fn.results = #[.cell q 32, .tmp r, .tmp u]) (tmps : Array Value) (w : World) {N : Nat} {a b c d : Value} (ht : tmps.getD q undef = .pointer (some ⟨N, 0, none⟩))
    (hc : w.heap[N]? = some (.cells #[a, b, c, d] 32)) : (results fn tmps).run Try.prog w = .ok (.tuple #[.agg #[a, b, c, d], tmps.getD r undef, tmps.getD u undef]) w := by
  have c0 := blk_cell hc 0 a rfl
  have c1 := blk_cell hc 1 b rfl
  have c2 := blk_cell hc 2 c rfl
  have c3 := blk_cell hc 3 d rfl
  have ht' : tmps[q]?.getD undef = .pointer (some ⟨N, 0, none⟩) := by simpa using ht
  simp only [results, h]
  simp [ht', go_sem, c0, c1, c2, c3]

end Go.Proofs.Ytekoniaobmapdab

/- Copies, spoiling, numbers: the law's own small functions of layer 9. -/
namespace Go.Proofs.Ytekoniaobmapdab
open Go.RowKit SumPlain
set_option linter.unusedVariables false
set_option linter.unusedSimpArgs false

theorem xor_u8 (a b : Int) : 0 ≤ bits .xor .u8 a b ∧ bits .xor .u8 a b ≤ 255 := by
  show 0 ≤ IntKind.u8.wrap _ ∧ IntKind.u8.wrap _ ≤ 255
  rw [IntKind.wrap_u8']
  omega

set_option maxHeartbeats 1000000 in
theorem spoil_any (l : List Int) (v : Value) (w : World) (base : Nat) (hv : OwnB w base v l) (hx : ∀ x ∈ l, 0 ≤ x ∧ x ≤ 255) (hl : l.length ≤ 140737488355328) :
    Calls Try.prog 11 #[v] w fun e w' => (∃ u, e = .returned u) ∧ w.grownBy w' v.ownBlock := by
  obtain ⟨a, cap, rfl, hcap⟩ := own_len hv
  obtain ⟨n, hn⟩ : ∃ n, n = l.length := ⟨_, rfl⟩
  have HV : Hid (OwnB w base (.slice a n cap) l ∧ l.length = n ∧ ∀ x ∈ l, 0 ≤ x ∧ x ≤ 255) := by subst hn; exact ⟨hv, rfl, hx⟩
  rw [← hn] at hcap hl ⊢
  clear hv hn hx
  go_enter Try.func11, Try.ntmps11
  go_wp2
  go_loopw [2] (fun i wr => ∃ (k : Nat) (l' : List Int), k ≤ n ∧ i = .int .i64 k ∧ Hid (OwnB wr base (.slice a n cap) l' ∧ l'.length = n ∧ ∀ x ∈ l', 0 ≤ x ∧ x ≤ 255) ∧ Hid (w.grownBy wr (Value.slice a n cap).ownBlock)) (fun i _ => n - (intOf i).toNat)
  case atStart => exact ⟨0, l, Nat.zero_le _, rfl, HV, grown_refl _ _⟩
  case round =>
    obtain ⟨k, l', hk, rfl, HO, HG⟩ := hrel
    by_cases hlt : k < n
    · have hlt' : (k : Int) < (n : Int) := by omega
      obtain ⟨ho, hn', hoct⟩ := HO.out
      obtain ⟨g, rfl⟩ : ∃ g, a = some ⟨g, 0, none⟩ := by
        obtain ⟨_, h⟩ := ho
        rcases h with ⟨e, h0⟩ | ⟨g, c2, cur, e, _⟩
        · rw [hn'] at h0
          omega
        · simp at e
          exact ⟨g, e.1⟩
      unfold OwnB at ho
      rw [hn'] at ho
      have hc0 := ho.cellAt k (by omega)
      have hf0 := ho.frozenAt k
      obtain ⟨y, hy⟩ : ∃ y, l'[k]? = some y := ⟨_, List.getElem?_eq_getElem (by omega)⟩
      rw [List.getElem?_map, hy] at hc0
      simp only [Option.map_some] at hc0
      obtain ⟨y0, y1⟩ := hoct y (List.mem_of_getElem? hy)
      have HSt : Hid (∀ z : Int, OwnB (wr.setCell ⟨g, k, none⟩ (.int .u8 z)) base (.slice (some ⟨g, 0, none⟩) n cap) (l'.set k z) ∧ wr.grownBy (wr.setCell ⟨g, k, none⟩ (.int .u8 z)) (some g)) := by
        intro z
        have hst := ho.stored k (.int .u8 z)
        refine ⟨?_, hst.2⟩
        unfold OwnB
        rw [List.length_set, hn', List.map_set]
        exact hst.1
      have HOct : Hid (∀ z : Int, 0 ≤ z ∧ z ≤ 255 → ∀ x ∈ l'.set k z, 0 ≤ x ∧ x ≤ 255) := by
        intro z hz x hx
        rcases List.mem_or_eq_of_mem_set hx with h1 | h1
        · exact hoct x h1
        · rw [h1]; exact hz
      clear ho hoct
      go_wp2
      exact ⟨⟨k + 1, l'.set k _, by omega, by go_num, ⟨(HSt.out _).1, by rw [List.length_set]; exact hn', HOct.out _ (xor_u8 _ _)⟩, grown_trans HG.out (HSt.out _).2⟩, by simp [intOf]; omega⟩
    · have hlt' : ¬ (k : Int) < (n : Int) := by omega
      go_wp2
      go_end0
      exact ⟨⟨_, rfl⟩, HG.out⟩


end Go.Proofs.Ytekoniaobmapdab

/- The leaves: octets copied, compared, spoiled; a filter as the law copies and compares it. -/
namespace Go.Proofs.Ytekoniaobmapdab
open Go.RowKit
set_option linter.unusedVariables false
set_option maxRecDepth 20000

theorem set2_blkB {w : World} {N : Nat} {t : TypeId} {x0 x1 : Value} (h : w.heap[N]? = some (.cells #[x0, x1] t)) (a b : Value) : (set2 w N a b).heap[N]? = some (.cells #[a, b] t) :=
  blk_set (blk_set h 0 a) 1 b
theorem set2_grownB (w : World) (N : Nat) (a b : Value) : w.grownBy (set2 w N a b) (some N) :=
  grown_trans (grown_set w ⟨N, 0, none⟩ a) (grown_set _ ⟨N, 1, none⟩ b)

end Go.Proofs.Ytekoniaobmapdab

/- The hash of a key: the program's and the document's. -/
namespace Go.Proofs.Ytekoniaobmapdab
open Go.RowKit
set_option linter.unusedVariables false
set_option maxRecDepth 20000

/-- One octet more. -/
def hashS (h x : Int) : Int := bits .xor .u64 h x * 1099511628211 % 18446744073709551616
def hashL (l : List Int) : Int := l.foldl hashS 14695981039346656037

theorem hash_nil : hashL [] = 14695981039346656037 := rfl
theorem hash_snoc (l : List Int) (x : Int) : hashL (l ++ [x]) = hashS (hashL l) x := by unfold hashL; rw [List.foldl_append]; rfl
theorem hash_u64 (l : List Int) : 0 ≤ hashL l ∧ hashL l ≤ 18446744073709551615 := by
  rcases List.eq_nil_or_concat l with rfl | ⟨r, x, rfl⟩
  · rw [hash_nil]; omega
  · rw [List.concat_eq_append, hash_snoc]; unfold hashS; omega

theorem wrap64 (n : Int) : IntKind.u64.wrap n = n % 18446744073709551616 := by simp [IntKind.wrap, IntKind.bits, IntKind.signed]
theorem val_u64 {a b : Int} (h : a = b) : Value.int .u64 a = .int .u64 b := by rw [h]

set_option maxHeartbeats 400000 in
theorem hash_any (l : List Int) (hx : OctL l) (hm : l.length ≤ 140737488355328) (w : World) :
    Calls Try.prog 75 #[.string (strOfNums l)] w fun e w' => e = .returned (.int .u64 (hashL l)) ∧ w' = w := by
  have hsz := str_size l
  go_enter Try.func75, Try.ntmps75
  go_wp2
  go_loopw [3, 7] (fun h i wr => ∃ k : Nat, k ≤ l.length ∧ i = .int .i64 k ∧ h = .int .u64 (hashL (l.take k)) ∧ wr = w) (fun _ i _ => l.length - (intOf i).toNat)
  case atStart => exact ⟨0, Nat.zero_le _, rfl, rfl, rfl⟩
  case round =>
    obtain ⟨k, hk, rfl, rfl, rfl⟩ := hrel
    by_cases hlt : k < l.length
    · have hlt' : (k : Int) < (l.length : Int) := by omega
      have hj : k < (strOfNums l).size := by omega
      have hy := str_at l hx k hj
      obtain ⟨y0, y1⟩ : 0 ≤ l.getD k 0 ∧ l.getD k 0 ≤ 255 := hx _ (by simp [List.getD, hlt])
      have HS : Hid (hashL (l.take (k + 1)) = hashS (hashL (l.take k)) (l.getD k 0)) := by unfold Hid; rw [take_snoc l k 0 hlt, hash_snoc]
      obtain ⟨z0, z1⟩ := hash_u64 (l.take k)
      generalize hashL (l.take k) = h at *
      generalize l.getD k 0 = x at *
      go_wp2
      exact ⟨⟨k + 1, by omega, by go_num, val_u64 (by rw [HS.out, hashS, wrap64]), trivial⟩, by simp [intOf]; omega⟩
    · have hlt' : ¬ (k : Int) < (l.length : Int) := by omega
      obtain rfl : k = l.length := by omega
      rw [List.take_length]
      go_wp2
      go_ret
      exact ⟨rfl, rfl⟩

set_option maxHeartbeats 400000 in
theorem refHash_any (l : List Int) (hx : OctL l) (hm : l.length ≤ 140737488355328) (w : World) :
    Calls Try.prog 62 #[.string (strOfNums l)] w fun e w' => e = .returned (.int .u64 (hashL l)) ∧ w' = w := by
  have hsz := str_size l
  go_enter Try.func62, Try.ntmps62
  go_wp2
  go_loopw [3, 4] (fun h i wr => ∃ k : Nat, k ≤ l.length ∧ i = .int .i64 k ∧ h = .int .u64 (hashL (l.take k)) ∧ wr = w) (fun _ i _ => l.length - (intOf i).toNat)
  case atStart => exact ⟨0, Nat.zero_le _, rfl, rfl, rfl⟩
  case round =>
    obtain ⟨k, hk, rfl, rfl, rfl⟩ := hrel
    by_cases hlt : k < l.length
    · have hlt' : (k : Int) < (l.length : Int) := by omega
      have hj : k < (strOfNums l).size := by omega
      have hy := str_at l hx k hj
      obtain ⟨y0, y1⟩ : 0 ≤ l.getD k 0 ∧ l.getD k 0 ≤ 255 := hx _ (by simp [List.getD, hlt])
      have HS : Hid (hashL (l.take (k + 1)) = hashS (hashL (l.take k)) (l.getD k 0)) := by unfold Hid; rw [take_snoc l k 0 hlt, hash_snoc]
      obtain ⟨z0, z1⟩ := hash_u64 (l.take k)
      generalize hashL (l.take k) = h at *
      generalize l.getD k 0 = x at *
      go_wp2
      exact ⟨⟨k + 1, by omega, by go_num, val_u64 (by rw [HS.out, hashS, wrap64]), trivial⟩, by simp [intOf]; omega⟩
    · have hlt' : ¬ (k : Int) < (l.length : Int) := by omega
      obtain rfl : k = l.length := by omega
      rw [List.take_length]
      go_wp2
      go_ret
      exact ⟨rfl, rfl⟩
end Go.Proofs.Ytekoniaobmapdab

/- Whether a filter may be: the program's and the document's; a key's places. -/
namespace Go.Proofs.Ytekoniaobmapdab
open Go.RowKit
set_option linter.unusedVariables false
set_option maxRecDepth 20000

def mayB (k : Int) (n : Nat) : Bool := decide (1 ≤ k) && (decide (k ≤ 8) && (decide (1 ≤ n) && decide (n ≤ 8192)))

theorem mayBe_any (k : Int) (a : Option Addr) (n c : Nat) (w : World) :
    Calls Try.prog 61 #[.agg #[.int .i64 k, .slice a n c]] w fun e w' => e = .returned (.bool (mayB k n)) ∧ w' = w.alloc (.cells #[.int .i64 k, .slice a n c] 36) := by
  go_enter Try.func61, Try.ntmps61
  by_cases c1 : 1 ≤ k
  · by_cases c2 : k ≤ 8
    · by_cases c3 : 1 ≤ n
      · have c3' : (1 : Int) ≤ (n : Int) := by omega
        by_cases c4 : n ≤ 8192
        · have c4' : (n : Int) ≤ 8192 := by omega
          have HM : Hid (true = mayB k n) := by unfold Hid mayB; simp [c1, c2, c3, c4]
          go_wp2
          go_ret
          exact ⟨ret_bool HM.out, rfl⟩
        · have c4' : ¬ (n : Int) ≤ 8192 := by omega
          have HM : Hid (false = mayB k n) := by unfold Hid mayB; simp [c4]
          go_wp2
          go_ret
          exact ⟨ret_bool HM.out, rfl⟩
      · have c3' : ¬ (1 : Int) ≤ (n : Int) := by omega
        have HM : Hid (false = mayB k n) := by unfold Hid mayB; simp [c3]
        go_wp2
        go_ret
        exact ⟨ret_bool HM.out, rfl⟩
    · have HM : Hid (false = mayB k n) := by unfold Hid mayB; simp [c2]
      go_wp2
      go_ret
      exact ⟨ret_bool HM.out, rfl⟩
  · have HM : Hid (false = mayB k n) := by unfold Hid mayB; simp [c1]
    go_wp2
    go_ret
    exact ⟨ret_bool HM.out, rfl⟩

/-- What the document answers. -/
def chkE (k : Int) (n : Nat) : Int := if mayB k n then 0 else 9

theorem check_anyB (k : Int) (a : Option Addr) (n c : Nat) (w : World) :
    Calls Try.prog 45 #[.agg #[.int .i64 k, .slice a n c]] w fun e w' => e = .returned (.int .i64 (chkE k n)) ∧ w' = w.alloc (.cells #[.int .i64 k, .slice a n c] 55) := by
  go_enter Try.func45, Try.ntmps45
  by_cases c1 : k < 1
  · have HM : Hid ((9 : Int) = chkE k n) := by unfold Hid chkE mayB; simp; omega
    go_wp2
    go_ret
    exact ⟨ret_int HM.out, rfl⟩
  · by_cases c2 : 8 < k
    · have HM : Hid ((9 : Int) = chkE k n) := by unfold Hid chkE mayB; simp; omega
      go_wp2
      go_ret
      exact ⟨ret_int HM.out, rfl⟩
    · by_cases c3 : n < 1
      · have c3' : (n : Int) < 1 := by omega
        have HM : Hid ((9 : Int) = chkE k n) := by unfold Hid chkE mayB; simp; omega
        go_wp2
        go_ret
        exact ⟨ret_int HM.out, rfl⟩
      · have c3' : ¬ (n : Int) < 1 := by omega
        by_cases c4 : 8192 < n
        · have c4' : (8192 : Int) < (n : Int) := by omega
          have HM : Hid ((9 : Int) = chkE k n) := by unfold Hid chkE mayB; simp; omega
          go_wp2
          go_ret
          exact ⟨ret_int HM.out, rfl⟩
        · have c4' : ¬ (8192 : Int) < (n : Int) := by omega
          have HM : Hid ((0 : Int) = chkE k n) := by unfold Hid chkE mayB; rw [if_pos (by simp; omega)]
          go_wp2
          go_ret
          exact ⟨ret_int HM.out, rfl⟩

/-- A key's places: its hash, which of them, how many octets. -/
def lowN (h : Int) : Nat := h.toNat % 4294967296
def highN (h : Int) : Nat := h.toNat / 4294967296 ||| 1
def plc (h : Int) (i n : Nat) : Nat := (lowN h + i * highN h) % (8 * n)

theorem lowN_lt (h : Int) : lowN h ≤ 4294967295 := by unfold lowN; omega
theorem highN_lt {h : Int} (h1 : h ≤ 18446744073709551615) : highN h ≤ 4294967295 := by
  have h2 : h.toNat / 4294967296 < 2 ^ 32 := by omega
  have := Nat.or_lt_two_pow h2 (show 1 < 2 ^ 32 by decide)
  unfold highN
  omega
theorem low_eq {h : Int} (h0 : 0 ≤ h) (h1 : h ≤ 18446744073709551615) : bits .and .u64 h 4294967295 = (lowN h : Int) := by
  rw [u64_and h 4294967295 h0 (by omega) (by omega) (by omega)]
  unfold lowN
  rw [show ((4294967295 : Int).toNat) = 2 ^ 32 - 1 from rfl, Nat.and_two_pow_sub_one_eq_mod]
theorem high_eq {h : Int} (h0 : 0 ≤ h) (h1 : h ≤ 18446744073709551615) : bits .or .u64 (h / 4294967296) 1 = (highN h : Int) := by
  rw [u64_or (h / 4294967296) 1 (by omega) (by omega) (by omega) (by omega)]
  unfold highN
  have e : (h / 4294967296).toNat = h.toNat / 4294967296 := by omega
  rw [e]
  rfl

theorem mul_le {i hi : Nat} (h1 : i ≤ 7) (h2 : hi ≤ 4294967295) : i * hi ≤ 30064771065 := by
  have := Nat.mul_le_mul h1 h2
  omega

theorem wrap_mul {i hi : Nat} (h1 : i ≤ 7) (h2 : hi ≤ 4294967295) : IntKind.u64.wrap ((i : Int) * (hi : Int)) = ((i * hi : Nat) : Int) := by
  have := mul_le h1 h2
  rw [wrap64, ← Int.natCast_mul]
  omega
theorem wrap_add {a b : Nat} (h1 : a ≤ 4294967295) (h2 : b ≤ 30064771065) : IntKind.u64.wrap ((a : Int) + (b : Int)) = ((a + b : Nat) : Int) := by
  rw [wrap64]
  omega

theorem places_any (l : List Int) (hx : OctL l) (hm : l.length ≤ 140737488355328) (k : Int) (a : Option Addr) (n c : Nat) (w : World) :
    Calls Try.prog 60 #[.agg #[.int .i64 k, .slice a n c], .string (strOfNums l)] w fun e w' => e = .returned (.func (.func 76) #[] #[.pointer (some ⟨w.heap.size, 0, none⟩), .pointer (some ⟨w.heap.size + 1, 0, none⟩), .pointer (some ⟨w.heap.size + 2, 0, none⟩)]) ∧
      w' = ((w.alloc (.cells #[.int .i64 k, .slice a n c] 36)).alloc (.cells #[.int .u64 (lowN (hashL l))] 51)).alloc (.cells #[.int .u64 (highN (hashL l))] 51) := by
  obtain ⟨z0, z1⟩ := hash_u64 l
  have HC : Hid (∀ w : World, Calls Try.prog 75 #[.string (strOfNums l)] w fun e w' => e = .returned (.int .u64 (hashL l)) ∧ w' = w) := fun w => hash_any l hx hm w
  generalize hashL l = h at *
  have e1 := low_eq z0 z1
  have e2 := high_eq z0 z1
  generalize lowN h = lo at *
  generalize highN h = hi at *
  go_enter Try.func60, Try.ntmps60
  go_wp2_with fail
  refine (HC.out _).mono ?_
  rintro e w1 ⟨rfl, rfl⟩
  go_wp2
  go_ret
  exact ⟨rfl, rfl⟩

set_option maxHeartbeats 400000 in
theorem place_any (l : List Int) (hx : OctL l) (hm : l.length ≤ 140737488355328) (i : Nat) (hi : i ≤ 7) (n : Nat) (hn : 1 ≤ n) (hn2 : n ≤ 8192) (w : World) :
    Calls Try.prog 44 #[.string (strOfNums l), .int .i64 i, .int .i64 (8 * (n : Int))] w fun e w' => e = .returned (.int .i64 (plc (hashL l) i n)) ∧ w' = w := by
  obtain ⟨z0, z1⟩ := hash_u64 l
  have HC : Hid (∀ w : World, Calls Try.prog 62 #[.string (strOfNums l)] w fun e w' => e = .returned (.int .u64 (hashL l)) ∧ w' = w) := fun w => refHash_any l hx hm w
  generalize hashL l = h at *
  have e1 := low_eq z0 z1
  have e2 := high_eq z0 z1
  have b1 := lowN_lt h
  have b2 := highN_lt z1
  have HP : Hid (plc h i n = (lowN h + i * highN h) % (8 * n)) := rfl
  generalize plc h i n = p at *
  generalize lowN h = lo at *
  generalize highN h = hg at *
  have e3 := wrap_mul hi b2
  have b3 := mul_le hi b2
  generalize i * hg = m at *
  have e4 := wrap_add b1 b3
  have b4 : lo + m ≤ 34359738360 := by omega
  generalize lo + m = s at *
  have b5 : p < 8 * n := by rw [HP.out]; exact Nat.mod_lt _ (by omega)
  have e5 : Int.tmod (s : Int) (8 * (n : Int)) = (p : Int) := by
    rw [HP.out]
    rw [Int.tmod_eq_emod_of_nonneg (by omega), Int.natCast_emod, Int.natCast_mul]
    rfl
  go_enter Try.func44, Try.ntmps44
  go_wp2_with fail
  refine (HC.out _).mono ?_
  rintro e w1 ⟨rfl, rfl⟩
  go_wp2
  go_ret
  exact ⟨rfl, rfl⟩
end Go.Proofs.Ytekoniaobmapdab

/- The function that hands out a key's places: it calls yield with each of them, in order, until it is told to stop. -/
namespace Go.Proofs.Ytekoniaobmapdab
open Go.RowKit Go.Shelf
set_option linter.unusedVariables false
set_option maxRecDepth 20000
attribute [local go_sem] Oper.semAt_some

/-- A place's bit in its octet. -/
def bitN (p : Nat) : Nat := 2 ^ (p % 8)

theorem bit_le (p : Nat) : bitN p ≤ 128 := by
  unfold bitN
  have h : p % 8 < 8 := Nat.mod_lt _ (by decide)
  generalize p % 8 = j at *
  have : ∀ j, j < 8 → 2 ^ j ≤ 128 := by decide
  exact this j h
theorem bit_eq (p : Nat) : ((bitN p : Nat) : Int) = 2 ^ (p % 8) % 256 := by
  have h := bit_le p
  have e : ((bitN p : Nat) : Int) = (2 : Int) ^ (p % 8) := by unfold bitN; rw [Int.natCast_pow]; rfl
  rw [← e]
  generalize bitN p = x at *
  omega

set_option maxHeartbeats 2000000 in
theorem iter_in (m l Bf : Nat) (K : Nat) (hK8 : K ≤ 8) (h : Int) (h0 : 0 ≤ h) (h1 : h ≤ 18446744073709551615) (a : Option Addr) (n c : Nat) (hn : 1 ≤ n) (hn2 : n ≤ 8192) (J : Nat → World → Prop) (D : World → Prop) (W : World)
    (hY : ∀ (i : Nat) (W0 : World), i < K → J i W0 → YieldAt Fence.wide (m - 1) Try.prog l #[.int .i64 ((plc h i n / 8 : Nat) : Int), .int .u8 ((bitN (plc h i n) : Nat) : Int)] W0 fun e W' => (e = .returned (.bool true) ∧ J (i + 1) W') ∨ (e = .returned (.bool false) ∧ D W'))
    (hK : ∀ i W', J i W' → W'.cell? ⟨Bf, 0, none⟩ = some (.int .i64 K) ∧ W'.cell? ⟨Bf, 1, none⟩ = some (.slice a n c) ∧ W'.cell? ⟨Bf + 1, 0, none⟩ = some (.int .u64 (lowN h)) ∧ W'.cell? ⟨Bf + 2, 0, none⟩ = some (.int .u64 (highN h)))
    (hJ : J 0 W) :
    CallsIn Fence.wide m Try.prog 76 #[.func (.yield l) #[] #[], .pointer (some ⟨Bf, 0, none⟩), .pointer (some ⟨Bf + 1, 0, none⟩), .pointer (some ⟨Bf + 2, 0, none⟩)] W fun e W' => (∃ v, e = .returned v) ∧ (J K W' ∨ D W') := by
  refine callsIn_of_wp Try.func76 rfl trivial ?_ rfl
  simp only [Try.ntmps76, List.size_toArray, List.length_cons, List.length_nil, Nat.reduceAdd, Nat.reduceSub, Array.replicate_succ, Array.replicate_zero, List.push_toArray, List.append_toArray, List.nil_append, List.cons_append]
  obtain ⟨k0, k1, k2, k3⟩ := hK 0 W hJ
  gi_wp2
  gi_loopw [9] (fun p wr => ∃ (i : Nat), p = .int .i64 (i : Int) ∧ i ≤ K ∧ Hid (J i wr)) (fun p wr => K - (intOf p).toNat)
  case atStart => exact ⟨0, rfl, Nat.zero_le _, hJ⟩
  case round =>
    obtain ⟨i, rfl, hi, hj⟩ := hrel
    clear k0 k1 k2 k3
    obtain ⟨k0, k1, k2, k3⟩ := hK i wr hj.out
    by_cases hlt : i < K
    · have hlt' : (i : Int) < (K : Int) := by omega
      have hi7 : i ≤ 7 := by omega
      have Y : Hid (YieldAt Fence.wide (m - 1) Try.prog l #[.int .i64 ((plc h i n / 8 : Nat) : Int), .int .u8 ((bitN (plc h i n) : Nat) : Int)] wr fun e W' => (e = .returned (.bool true) ∧ J (i + 1) W') ∨ (e = .returned (.bool false) ∧ D W')) := hY i wr hlt hj.out
      clear hY hK
      have b1 := lowN_lt h
      have b2 := highN_lt h1
      have HP : Hid (plc h i n = (lowN h + i * highN h) % (8 * n)) := rfl
      generalize plc h i n = p at *
      generalize lowN h = lo at *
      generalize highN h = hg at *
      have e3 := wrap_mul hi7 b2
      have b3 := mul_le hi7 b2
      generalize i * hg = q at *
      have e4 := wrap_add b1 b3
      have b4 : lo + q ≤ 34359738360 := by omega
      generalize lo + q = s at *
      have b5 : p < 8 * n := by rw [HP.out]; exact Nat.mod_lt _ (by omega)
      have e5 : Int.tmod (s : Int) ((n : Int) * 8) = (p : Int) := by
        rw [HP.out]
        rw [Int.tmod_eq_emod_of_nonneg (by omega), Int.natCast_emod, Int.natCast_mul, Int.mul_comm]
        rfl
      have hb : ((bitN p : Nat) : Int) = 2 ^ (p % 8) % 256 := bit_eq p
      have hd : ((p / 8 : Nat) : Int) = (p : Int) / 8 := by omega
      rw [hb, hd] at Y
      clear hb hd
      obtain ⟨fn, tmps, asg, bod, hy, hR⟩ := Y.out
      clear Y
      gi_wp2
      refine ⟨fun h => (by cases h), hR.mono ?_⟩
      rintro e W3 (⟨rfl, hJ3⟩ | ⟨rfl, hD3⟩)
      · have HJ3 : Hid (J (i + 1) W3) := hJ3
        clear hJ3
        gi_wp2
        exact ⟨⟨i + 1, by simp, by omega, HJ3⟩, by simp [intOf]; omega⟩
      · have HD3 : Hid (D W3) := hD3
        clear hD3
        gi_wp2
        refine bodyPost_ret (results_none rfl _ _ _) rfl ?_
        exact ⟨⟨_, rfl⟩, .inr HD3.out⟩
    · have hlt' : ¬ (i : Int) < (K : Int) := by omega
      obtain rfl : i = K := by omega
      clear hY hK
      gi_wp2
      go_end0
      exact ⟨⟨_, rfl⟩, .inl hj.out⟩
end Go.Proofs.Ytekoniaobmapdab

/- A loop over a function whose body goes on or returns; the marks that such loops leave among a call's deferred ones. -/
namespace Go.Proofs.Ytekoniaobmapdab
open Go.RowKit Go.Shelf
set_option linter.unusedVariables false
set_option maxRecDepth 20000
attribute [local go_sem] Oper.semAt_some

theorem range_law {g : Operand} {ps : Array Tmp} {assign body : Code} {Q : Exit → Act → World → Prop} {a : Act} {w : World} {n gf : Nat} {lb : Array Value} (hg : a.eval g = .func (.func gf) #[] lb)
    (eg : ∀ args w, (callFunc gf args).run Try.prog w = .ok (.enter gf args) w)
    (h : ∀ r : Loop, r.state = .ready → r.pending = none → r.tmps = a.tmps → r.params = ps → r.assign = assign → r.body = body →
      CallsIn Fence.wide (n - 1) Try.prog gf (#[.func (.yield (w.heap.size + 1)) #[] #[]] ++ lb) ((w.alloc (.deferred (some []))).alloc (.loop r))
      fun e W' => (∃ v, e = .returned v) ∧ ∃ r' : Loop, W'.heap[w.heap.size + 1]? = some (.loop r') ∧ r'.state ≠ .busy ∧
        ((r'.pending = none ∧ Q .normal { a with defers := { target := .collected w.heap.size, args := #[] } :: a.defers } (W'.putObj (w.heap.size + 1) (.loop { r' with state := .exhausted }))) ∨
         (r'.pending = some .ret ∧ Q .ret { a with defers := { target := .collected w.heap.size, args := #[] } :: a.defers } (W'.putObj (w.heap.size + 1) (.loop { r' with state := .exhausted }))))) :
    (Code.rangeFunc g ps assign body).wpIn Fence.wide n Try.prog Q a w := by
  refine wpIn_rangeFunc ?_
  intro fn hfn
  have hent := run_enterLoop_outer (P := Try.prog) (w := w) fn a.tmps ps assign body
  obtain ⟨r, hr⟩ : ∃ r : Loop, r = { state := .ready, pending := none, fn, tmps := a.tmps, params := ps, assign, body, defers := w.heap.size } := ⟨_, rfl⟩
  have hh := h r (by rw [hr]) (by rw [hr]) (by rw [hr]) (by rw [hr]) (by rw [hr]) (by rw [hr])
  rw [← hr] at hent
  clear h hr
  generalize (w.alloc (.deferred (some []))).alloc (.loop r) = W1 at *
  refine ⟨w.heap.size + 1, [{ target := .collected w.heap.size, args := #[] }], W1, { target := .fn (.func gf) lb, args := #[.func (.yield (w.heap.size + 1)) #[] #[]] }, W1, gf, #[.func (.yield (w.heap.size + 1)) #[] #[]] ++ lb, W1, hent, ?_, fun _ _ => trivial, ?_, fun h => (by cases h), ?_⟩
  · simp only [resolve, hg]
    simp [go_sem]
  · simp [invoke, go_sem, eg]
  · refine hh.mono ?_
    rintro e W' ⟨⟨v, rfl⟩, r', h1, h2, h4⟩
    refine ⟨r'.pending, _, run_endLoop (P := Try.prog) h1 h2, ?_⟩
    rcases h4 with ⟨h3, h4⟩ | ⟨h3, h4⟩
    · rw [h3] at h4 ⊢
      exact h4
    · rw [h3] at h4 ⊢
      exact wpIn_ret h4

/-- The marks of loops over functions. -/
def marks (ds : List Nat) : List Deferred := ds.map fun b => { target := .collected b, args := #[] }

/-- A world that is another one but for the blocks ds. -/
structure But (ds : List Nat) (W W' : World) : Prop where
  os : W'.os = W.os
  tape : W'.tape = W.tape
  output : W'.output = W.output
  size : W'.heap.size = W.heap.size
  block : ∀ k, k ∉ ds → W'.heap[k]? = W.heap[k]?

theorem leaves_marks {n : Nat} {fn : Func} {tmps : Array Value} {R : Ending → World → Prop} : ∀ (ds : List Nat) (W : World), ds.Nodup → (∀ b ∈ ds, W.heap[b]? = some (.deferred (some []))) →
    (∀ W', But ds W W' → LeavesInM Fence.wide n Try.prog fn tmps R [] .returning W') → LeavesInM Fence.wide n Try.prog fn tmps R (marks ds) .returning W
  | [], W, _, _, h => h W ⟨rfl, rfl, rfl, rfl, fun _ _ => rfl⟩
  | b :: ds, W, hn, hb, h => by
    refine ⟨by simp, .inl ⟨b, W.putObj b (.deferred none), rfl, run_takeDeferred (hb b (List.mem_cons_self ..)), ?_⟩⟩
    obtain ⟨hbn, hn'⟩ := List.nodup_cons.1 hn
    refine leaves_marks ds _ hn' (fun c hc => ?_) (fun W' hW' => h W' ?_)
    · have hne : c ≠ b := fun e => hbn (by rw [← e]; exact hc)
      rw [World.putObj_heap_other hne]
      exact hb c (List.mem_cons_of_mem _ hc)
    · refine ⟨hW'.os, hW'.tape, hW'.output, by rw [hW'.size]; simp [World.putObj], fun k hk => ?_⟩
      have hne : k ≠ b := fun e => hk (by rw [e]; exact List.mem_cons_self ..)
      rw [hW'.block k (fun e => hk (List.mem_cons_of_mem _ e)), World.putObj_heap_other hne]

theorem But.grown {ds : List Nat} {W W' : World} (h : But ds W W') {B : Nat} (hB : ∀ b ∈ ds, B ≤ b) : Below B W W' :=
  ⟨h.os, h.tape, h.output, Nat.le_of_eq h.size.symm, fun k hk => h.block k (fun e => by have := hB k e; omega)⟩

theorem But.cell {ds : List Nat} {W W' : World} (h : But ds W W') {B i : Nat} (hB : B ∉ ds) : W'.cell? ⟨B, i, none⟩ = W.cell? ⟨B, i, none⟩ := by
  unfold World.cell?
  simp only [h.block B hB]
end Go.Proofs.Ytekoniaobmapdab

/- Has: whether all places of a key are set. -/
namespace Go.Proofs.Ytekoniaobmapdab
open Go.RowKit Go.Shelf
set_option linter.unusedVariables false
set_option maxRecDepth 20000
attribute [local go_sem] Oper.semAt_some

/-- Is place p set? -/
def setB (l : List Int) (p : Nat) : Bool := !(((l.getD (p / 8) 0).toNat &&& bitN p) == 0)
def hasF (h : Int) (K n : Nat) (l : List Int) : Bool := (List.range K).all fun i => setB l (plc h i n)

theorem hasF_true {h : Int} {K n : Nat} {l : List Int} (hs : ∀ j, j < K → setB l (plc h j n) = true) : hasF h K n l = true := by
  unfold hasF
  rw [List.all_eq_true]
  intro j hj
  exact hs j (List.mem_range.1 hj)
theorem plc_lt {h : Int} {i n : Nat} (hn : 1 ≤ n) : plc h i n / 8 < n := by
  have : plc h i n < 8 * n := by unfold plc; exact Nat.mod_lt _ (by omega)
  omega

theorem blk_al {w : World} {B : Nat} {o : Obj} (h : w.heap[B]? = some o) (o' : Obj) : (w.alloc o').heap[B]? = some o := blk_up h (up_alloc _ _)
theorem blk_nw (w : World) {N : Nat} (o : Obj) (h : w.heap.size = N) : (w.alloc o).heap[N]? = some o := by rw [← h]; exact blk_new w o

/-- What lies behind Has's loop. -/
structure HasW (w : World) (k : Int) (v : Value) (h : Int) (r : Loop) (W : World) : Prop where
  box : W.heap[w.heap.size]? = some (.cells #[.int .i64 k, v] 36)
  res : W.heap[w.heap.size + 1]? = some (.cells #[.bool false] 4)
  err : W.heap[w.heap.size + 2]? = some (.cells #[.int .i64 0] 26)
  pbox : W.heap[w.heap.size + 4]? = some (.cells #[.int .i64 k, v] 36)
  low : W.heap[w.heap.size + 5]? = some (.cells #[.int .u64 (lowN h)] 51)
  high : W.heap[w.heap.size + 6]? = some (.cells #[.int .u64 (highN h)] 51)
  dfr : W.heap[w.heap.size + 7]? = some (.deferred (some []))
  loop : W.heap[w.heap.size + 8]? = some (.loop r)
  below : Below w.heap.size w W

theorem HasW.put {w : World} {k : Int} {v : Value} {h : Int} {r : Loop} {W : World} (H : HasW w k v h r W) (r' : Loop) : HasW w k v h r' (W.putObj (w.heap.size + 8) (.loop r')) := by
  have g := grownBy_putObj' W (w.heap.size + 8) (.loop r')
  exact ⟨blk_grown H.box g (by simp), blk_grown H.res g (by simp), blk_grown H.err g (by simp), blk_grown H.pbox g (by simp), blk_grown H.low g (by simp), blk_grown H.high g (by simp), blk_grown H.dfr g (by simp), World.putObj_heap_same (blk_lt H.loop), H.below.grown g H.below.size (fun j hj => by simp at hj; omega)⟩

/-- The two results are written. -/
theorem HasW.res2 {w : World} {k : Int} {v : Value} {h : Int} {r : Loop} {W : World} (H : HasW w k v h r W) (x : Bool) (y : Int) :
    ((W.setCell ⟨w.heap.size + 1, 0, none⟩ (.bool x)).setCell ⟨w.heap.size + 2, 0, none⟩ (.int .i64 y)).heap[w.heap.size + 1]? = some (.cells #[.bool x] 4) ∧
    ((W.setCell ⟨w.heap.size + 1, 0, none⟩ (.bool x)).setCell ⟨w.heap.size + 2, 0, none⟩ (.int .i64 y)).heap[w.heap.size + 2]? = some (.cells #[.int .i64 y] 26) :=
  ⟨blk_grown (blk_set H.res 0 _) (grown_set _ _ _) (by simp), blk_set (blk_grown H.err (grown_set _ _ _) (by simp)) 0 _⟩
theorem HasW.set {w : World} {k : Int} {v : Value} {h : Int} {r : Loop} {W : World} (H : HasW w k v h r W) :
    HasW w k v h r ((W.setCell ⟨w.heap.size + 1, 0, none⟩ (.bool false)).setCell ⟨w.heap.size + 2, 0, none⟩ (.int .i64 0)) := by
  have g1 := grown_set W ⟨w.heap.size + 1, 0, none⟩ (.bool false)
  have g2 := grown_set (W.setCell ⟨w.heap.size + 1, 0, none⟩ (.bool false)) ⟨w.heap.size + 2, 0, none⟩ (.int .i64 0)
  have q := H.res2 false 0
  exact ⟨blk_grown (blk_grown H.box g1 (by simp)) g2 (by simp), q.1, q.2, blk_grown (blk_grown H.pbox g1 (by simp)) g2 (by simp), blk_grown (blk_grown H.low g1 (by simp)) g2 (by simp), blk_grown (blk_grown H.high g1 (by simp)) g2 (by simp), blk_grown (blk_grown H.dfr g1 (by simp)) g2 (by simp), blk_grown (blk_grown H.loop g1 (by simp)) g2 (by simp),
    (H.below.grown g1 H.below.size (fun j hj => by simp at hj; omega)).grown g2 (Nat.le_trans H.below.size g1.size) (fun j hj => by simp at hj; omega)⟩

end Go.Proofs.Ytekoniaobmapdab
