/- The texts EQ, EOct, SMath, SBridge, SLeaf, SOctets, SGuard, in this order. -/
import Derived.Test.YtnchjlimkgbfpaaGreatDoorVAgain
import Derived.Test.YtnchjlimkgbfpaaGreatDoorE03
import Derived.Laws.BitsAllLaws
import Derived.Test.YtnchjlimkgbfpaaGreatDoorE01
import Derived.Deep.RegionHeld3
import Derived.Deep.OwnRows
import Derived.Deep.AppendLies

namespace Go.Proofs.YtnchjlimkgbfpaaGreatDoor
open Go.RowKit
set_option linter.unusedVariables false
set_option maxRecDepth 20000
theorem getRet_injE {l : List Int} {a b c : Int} (h : getRet l = .tuple #[.int .u64 a, .int .i64 b, .int .i64 c]) : getOf l = (a, b, c) := by
  unfold getRet at h
  simp at h
  obtain ⟨h1, h2, h3⟩ := h
  rw [← h1, ← h2, ← h3]
def numQ (most code : Int) (l : List Int) : Except Int (Int × List Int) :=
  if (getOf l).2.2 = 0 then (if most < (getOf l).1 then .error code else .ok ((getOf l).1, l.drop (getOf l).2.1.toNat)) else .error (getOf l).2.2
end Go.Proofs.YtnchjlimkgbfpaaGreatDoor

namespace Go.Proofs.YtnchjlimkgbfpaaGreatDoor
open Go.RowKit
set_option linter.unusedVariables false
set_option maxRecDepth 20000
set_option linter.unusedSimpArgs false
def txtE (s : ByteArray) : List Int := octets (s.size : Int) ++ nums s
def metO (m : Me) : List Int := octets m.id ++ (octets m.lvl ++ (octets m.cnt ++ (txtE m.low ++ txtE m.high)))
def metsO : List Me → List Int
  | [] => []
  | m :: r => metO m ++ metsO r
def idsO : List Int → List Int
  | [] => []
  | i :: r => octets i ++ idsO r
def edO (seq next : Int) (drop : List Int) (add : List Me) : List Int :=
  octets seq ++ (octets next ++ (octets (drop.length : Int) ++ (idsO drop ++ (octets (add.length : Int) ++ metsO add))))
def numE (n : Int) : Bool := decide (0 ≤ n ∧ n ≤ 1099511627776)
def metE (m : Me) : Bool := numE m.id && (numE m.lvl && (numE m.cnt && decide (m.low.size ≤ 96 ∧ m.high.size ≤ 96)))
def encE (seq next : Int) (drop : List Int) (add : List Me) : List Int × Int :=
  if 256 < drop.length ∨ 256 < add.length then ([], 3) else
    if (numE seq && (numE next && (drop.all numE && add.all metE))) = true then (edO seq next drop add, 0) else ([], 1)
def txtP (l : List Int) : Except Int (ByteArray × List Int) :=
  match numQ 1099511627776 1 l with
  | .error e => .error e
  | .ok (n, r) => if 96 < n then .error 1 else if (r.length : Int) < n then .error 8 else .ok (strOfNums (r.take n.toNat), r.drop n.toNat)
def cntQ (l : List Int) : Except Int (Int × List Int) :=
  match numQ 1099511627776 1 l with
  | .error e => .error e
  | .ok (n, r) => if 256 < n then .error 3 else .ok (n, r)
def idsP : Nat → List Int → Except Int (List Int × List Int)
  | 0, l => .ok ([], l)
  | n + 1, l => match numQ 1099511627776 1 l with
    | .error e => .error e
    | .ok (i, r) => match idsP n r with
      | .error e => .error e
      | .ok (is, t) => .ok (i :: is, t)
def metP (l : List Int) : Except Int (Me × List Int) :=
  match numQ 1099511627776 1 l with
  | .error e => .error e
  | .ok (i, l1) => match numQ 1099511627776 1 l1 with
    | .error e => .error e
    | .ok (v, l2) => match numQ 1099511627776 1 l2 with
      | .error e => .error e
      | .ok (c, l3) => match txtP l3 with
        | .error e => .error e
        | .ok (lo, l4) => match txtP l4 with
          | .error e => .error e
          | .ok (hi, l5) => .ok (⟨i, v, c, lo, hi⟩, l5)
def metsP : Nat → List Int → Except Int (List Me × List Int)
  | 0, l => .ok ([], l)
  | n + 1, l => match metP l with
    | .error e => .error e
    | .ok (m, r) => match metsP n r with
      | .error e => .error e
      | .ok (ms, t) => .ok (m :: ms, t)
def decE (l : List Int) : Except Int (Int × Int × List Int × List Me) :=
  match numQ 1099511627776 1 l with
  | .error e => .error e
  | .ok (s, l1) => match numQ 1099511627776 1 l1 with
    | .error e => .error e
    | .ok (x, l2) => match cntQ l2 with
      | .error e => .error e
      | .ok (n, l3) => match idsP n.toNat l3 with
        | .error e => .error e
        | .ok (is, l4) => match cntQ l4 with
          | .error e => .error e
          | .ok (k, l5) => match metsP k.toNat l5 with
            | .error e => .error e
            | .ok (ms, l6) => if l6 = [] then .ok (s, x, is, ms) else .error 23
theorem numE_iff {n : Int} : numE n = true ↔ 0 ≤ n ∧ n ≤ 1099511627776 := by unfold numE; simp
theorem metE_iff {m : Me} : metE m = true ↔ (0 ≤ m.id ∧ m.id ≤ 1099511627776) ∧ (0 ≤ m.lvl ∧ m.lvl ≤ 1099511627776) ∧ (0 ≤ m.cnt ∧ m.cnt ≤ 1099511627776) ∧ m.low.size ≤ 96 ∧ m.high.size ≤ 96 := by
  unfold metE; simp [numE_iff]
theorem encE_zero {s x : Int} {is : List Int} {ms : List Me} : (encE s x is ms).2 = 0 ↔ is.length ≤ 256 ∧ ms.length ≤ 256 ∧ numE s = true ∧ numE x = true ∧ (∀ i ∈ is, numE i = true) ∧ (∀ m ∈ ms, metE m = true) := by
  unfold encE
  by_cases h : 256 < is.length ∨ 256 < ms.length
  · rw [if_pos h]
    refine ⟨fun k => absurd k (by decide), fun k => by omega⟩
  · rw [if_neg h]
    by_cases h2 : (numE s && (numE x && (is.all numE && ms.all metE))) = true
    · rw [if_pos h2]
      refine ⟨fun _ => ?_, fun _ => rfl⟩
      simp only [Bool.and_eq_true, List.all_eq_true] at h2
      exact ⟨by omega, by omega, h2.1, h2.2.1, h2.2.2.1, h2.2.2.2⟩
    · rw [if_neg h2]
      refine ⟨fun k => absurd k (by decide), fun k => absurd ?_ h2⟩
      simp only [Bool.and_eq_true, List.all_eq_true]
      exact ⟨k.2.2.1, k.2.2.2.1, k.2.2.2.2.1, k.2.2.2.2.2⟩
theorem encE_good {s x : Int} {is : List Int} {ms : List Me} (h : (encE s x is ms).2 = 0) : encE s x is ms = (edO s x is ms, 0) := by
  obtain ⟨h1, h2, h3, h4, h5, h6⟩ := encE_zero.1 h
  unfold encE
  rw [if_neg (by omega), if_pos]
  simp only [Bool.and_eq_true, List.all_eq_true]
  exact ⟨h3, h4, h5, h6⟩
def OctA (l : List Int) : Prop := ∀ y ∈ l, 0 ≤ y ∧ y ≤ 255
theorem OctA.tail {l p r : List Int} (h : OctA l) (e : l = p ++ r) : OctA r := fun y hy => h y (by rw [e]; exact List.mem_append_right _ hy)
theorem numQ_againE {most code : Int} {l : List Int} (hx : OctA l) {n : Int} {r : List Int} (h : numQ most code l = .ok (n, r)) : 0 ≤ n ∧ n ≤ most ∧ l = octets n ++ r := by
  unfold numQ at h
  split at h
  · rename_i h0
    split at h
    · cases h
    · rename_i hn
      rcases get_says l hx with hg | hg | ⟨m, j, hg, n0, n1, j1, jl, ho, j9⟩
      · rw [getRet_injE hg] at h0; cases h0
      · rw [getRet_injE hg] at h0; cases h0
      · rw [getRet_injE hg] at h hn
        simp only [Int.toNat_natCast, Except.ok.injEq, Prod.mk.injEq] at h hn
        obtain ⟨rfl, rfl⟩ := h
        refine ⟨n0, by omega, ?_⟩
        rw [ho, List.take_append_drop]
  · cases h
theorem cntQ_again {l : List Int} (hx : OctA l) {n : Int} {r : List Int} (h : cntQ l = .ok (n, r)) : 0 ≤ n ∧ n ≤ 256 ∧ l = octets n ++ r := by
  unfold cntQ at h
  cases e : numQ 1099511627776 1 l with
  | error c => rw [e] at h; cases h
  | ok v =>
    obtain ⟨m, q⟩ := v
    rw [e] at h
    obtain ⟨n0, n1, hl⟩ := numQ_againE hx e
    simp only at h
    split at h
    · cases h
    · simp only [Except.ok.injEq, Prod.mk.injEq] at h
      obtain ⟨rfl, rfl⟩ := h
      exact ⟨n0, by omega, hl⟩
theorem txtP_again {l : List Int} (hx : OctA l) {s : ByteArray} {r : List Int} (h : txtP l = .ok (s, r)) : s.size ≤ 96 ∧ l = txtE s ++ r := by
  unfold txtP at h
  cases e : numQ 1099511627776 1 l with
  | error c => rw [e] at h; cases h
  | ok v =>
    rw [e] at h
    obtain ⟨n, q⟩ := v
    obtain ⟨n0, n1, hl⟩ := numQ_againE hx e
    simp only at h
    split at h
    · cases h
    rename_i h96
    split at h
    · cases h
    · simp only [Except.ok.injEq, Prod.mk.injEq] at h
      obtain ⟨rfl, rfl⟩ := h
      have hq : ∀ y ∈ q.take n.toNat, 0 ≤ y ∧ y ≤ 255 := fun y hy => hx y (by rw [hl]; exact List.mem_append_right _ (List.mem_of_mem_take hy))
      have hs : (strOfNums (q.take n.toNat)).size = n.toNat := by
        rw [← nums_length, nums_str _ hq, List.length_take]; omega
      refine ⟨by omega, ?_⟩
      unfold txtE
      rw [hs, nums_str _ hq, List.append_assoc, List.take_append_drop, Int.toNat_of_nonneg n0, hl]
theorem idsP_again : ∀ {n : Nat} {l : List Int}, OctA l → ∀ {is r : List Int}, idsP n l = .ok (is, r) → is.length = n ∧ l = idsO is ++ r ∧ ∀ i ∈ is, numE i = true
  | 0, l, hx, is, r, h => by
    simp only [idsP, Except.ok.injEq, Prod.mk.injEq] at h
    obtain ⟨rfl, rfl⟩ := h
    exact ⟨rfl, rfl, by simp⟩
  | n + 1, l, hx, is, r, h => by
    rw [idsP] at h
    cases e : numQ 1099511627776 1 l with
    | error c => rw [e] at h; cases h
    | ok v =>
      obtain ⟨i, q⟩ := v
      rw [e] at h
      obtain ⟨n0, n1, hl⟩ := numQ_againE hx e
      simp only at h
      cases e2 : idsP n q with
      | error c => rw [e2] at h; cases h
      | ok v2 =>
        obtain ⟨js, t⟩ := v2
        rw [e2] at h
        simp only [Except.ok.injEq, Prod.mk.injEq] at h
        obtain ⟨rfl, rfl⟩ := h
        obtain ⟨k1, k2, k3⟩ := idsP_again (hx.tail hl) e2
        refine ⟨by rw [List.length_cons, k1], by rw [hl, k2, idsO, List.append_assoc], fun j hj => ?_⟩
        rcases List.mem_cons.1 hj with rfl | hj
        · exact numE_iff.2 ⟨n0, n1⟩
        · exact k3 j hj
theorem metP_again {l : List Int} (hx : OctA l) {m : Me} {r : List Int} (h : metP l = .ok (m, r)) : metE m = true ∧ l = metO m ++ r := by
  unfold metP at h
  cases e1 : numQ 1099511627776 1 l with
  | error c => rw [e1] at h; cases h
  | ok v1 =>
    obtain ⟨i, l1⟩ := v1
    rw [e1] at h
    obtain ⟨a1, b1, c1⟩ := numQ_againE hx e1
    have x1 := hx.tail c1
    simp only at h
    cases e2 : numQ 1099511627776 1 l1 with
    | error c => rw [e2] at h; cases h
    | ok v2 =>
      obtain ⟨v, l2⟩ := v2
      rw [e2] at h
      obtain ⟨a2, b2, c2⟩ := numQ_againE x1 e2
      have x2 := x1.tail c2
      simp only at h
      cases e3 : numQ 1099511627776 1 l2 with
      | error c => rw [e3] at h; cases h
      | ok v3 =>
        obtain ⟨c, l3⟩ := v3
        rw [e3] at h
        obtain ⟨a3, b3, c3⟩ := numQ_againE x2 e3
        have x3 := x2.tail c3
        simp only at h
        cases e4 : txtP l3 with
        | error c => rw [e4] at h; cases h
        | ok v4 =>
          obtain ⟨lo, l4⟩ := v4
          rw [e4] at h
          obtain ⟨a4, c4⟩ := txtP_again x3 e4
          have x4 := x3.tail c4
          simp only at h
          cases e5 : txtP l4 with
          | error c => rw [e5] at h; cases h
          | ok v5 =>
            obtain ⟨hi, l5⟩ := v5
            rw [e5] at h
            obtain ⟨a5, c5⟩ := txtP_again x4 e5
            simp only [Except.ok.injEq, Prod.mk.injEq] at h
            obtain ⟨rfl, rfl⟩ := h
            refine ⟨metE_iff.2 ⟨⟨a1, b1⟩, ⟨a2, b2⟩, ⟨a3, b3⟩, a4, a5⟩, ?_⟩
            unfold metO
            rw [c1, c2, c3, c4, c5]
            simp only [List.append_assoc]
theorem metsP_again : ∀ {n : Nat} {l : List Int}, OctA l → ∀ {ms : List Me} {r : List Int}, metsP n l = .ok (ms, r) → ms.length = n ∧ l = metsO ms ++ r ∧ ∀ m ∈ ms, metE m = true
  | 0, l, hx, ms, r, h => by
    simp only [metsP, Except.ok.injEq, Prod.mk.injEq] at h
    obtain ⟨rfl, rfl⟩ := h
    exact ⟨rfl, rfl, by simp⟩
  | n + 1, l, hx, ms, r, h => by
    rw [metsP] at h
    cases e : metP l with
    | error c => rw [e] at h; cases h
    | ok v =>
      obtain ⟨m, q⟩ := v
      rw [e] at h
      obtain ⟨hm, hl⟩ := metP_again hx e
      simp only at h
      cases e2 : metsP n q with
      | error c => rw [e2] at h; cases h
      | ok v2 =>
        obtain ⟨js, t⟩ := v2
        rw [e2] at h
        simp only [Except.ok.injEq, Prod.mk.injEq] at h
        obtain ⟨rfl, rfl⟩ := h
        obtain ⟨k1, k2, k3⟩ := metsP_again (hx.tail hl) e2
        refine ⟨by rw [List.length_cons, k1], by rw [hl, k2, metsO, List.append_assoc], fun j hj => ?_⟩
        rcases List.mem_cons.1 hj with rfl | hj
        · exact hm
        · exact k3 j hj
theorem enc_decE {l : List Int} (hx : OctA l) {s x : Int} {is : List Int} {ms : List Me} (h : decE l = .ok (s, x, is, ms)) : encE s x is ms = (l, 0) := by
  unfold decE at h
  cases e1 : numQ 1099511627776 1 l with
  | error c => rw [e1] at h; cases h
  | ok v1 =>
    obtain ⟨s', l1⟩ := v1
    rw [e1] at h
    obtain ⟨a1, b1, c1⟩ := numQ_againE hx e1
    have x1 := hx.tail c1
    simp only at h
    cases e2 : numQ 1099511627776 1 l1 with
    | error c => rw [e2] at h; cases h
    | ok v2 =>
      obtain ⟨x', l2⟩ := v2
      rw [e2] at h
      obtain ⟨a2, b2, c2⟩ := numQ_againE x1 e2
      have x2 := x1.tail c2
      simp only at h
      cases e3 : cntQ l2 with
      | error c => rw [e3] at h; cases h
      | ok v3 =>
        obtain ⟨n, l3⟩ := v3
        rw [e3] at h
        obtain ⟨a3, b3, c3⟩ := cntQ_again x2 e3
        have x3 := x2.tail c3
        simp only at h
        cases e4 : idsP n.toNat l3 with
        | error c => rw [e4] at h; cases h
        | ok v4 =>
          obtain ⟨js, l4⟩ := v4
          rw [e4] at h
          obtain ⟨a4, c4, d4⟩ := idsP_again x3 e4
          have x4 := x3.tail c4
          simp only at h
          cases e5 : cntQ l4 with
          | error c => rw [e5] at h; cases h
          | ok v5 =>
            obtain ⟨k, l5⟩ := v5
            rw [e5] at h
            obtain ⟨a5, b5, c5⟩ := cntQ_again x4 e5
            have x5 := x4.tail c5
            simp only at h
            cases e6 : metsP k.toNat l5 with
            | error c => rw [e6] at h; cases h
            | ok v6 =>
              obtain ⟨ns, l6⟩ := v6
              rw [e6] at h
              obtain ⟨a6, c6, d6⟩ := metsP_again x5 e6
              simp only at h
              by_cases h6 : l6 = []
              · rw [if_pos h6] at h
                simp only [Except.ok.injEq, Prod.mk.injEq] at h
                obtain ⟨rfl, rfl, rfl, rfl⟩ := h
                subst h6
                rw [encE_good (encE_zero.2 ⟨by omega, by omega, numE_iff.2 ⟨a1, b1⟩, numE_iff.2 ⟨a2, b2⟩, d4, d6⟩)]
                have q1 : (js.length : Int) = n := by omega
                have q2 : (ns.length : Int) = k := by omega
                unfold edO
                rw [q1, q2, c1, c2, c3, c4, c5, c6]
                simp only [List.append_nil]
              · rw [if_neg h6] at h; cases h
end Go.Proofs.YtnchjlimkgbfpaaGreatDoor

namespace Go.Proofs.YtnchjlimkgbfpaaGreatDoor.SumPlain
def poly : BitVec 32 := 0x04c11db7#32
def stp (c : BitVec 32) : BitVec 32 := (c <<< 1) ^^^ (if c.msb then poly else 0#32)
def stpN : Nat → BitVec 32 → BitVec 32
  | 0, c => c
  | n + 1, c => stpN n (stp c)
theorem stpN_add : ∀ (n m : Nat) (c : BitVec 32), stpN (n + m) c = stpN m (stpN n c)
  | 0, m, c => by rw [Nat.zero_add]; rfl
  | n + 1, m, c => by
    rw [Nat.add_right_comm]
    exact stpN_add n m (stp c)
def top (x : BitVec 8) : BitVec 32 := (x.setWidth 32) <<< 24
def octS (c : BitVec 32) (x : BitVec 8) : BitVec 32 := stpN 8 (c ^^^ top x)
def extS (c : BitVec 32) (l : List (BitVec 8)) : BitVec 32 := l.foldl octS c
theorem ext_append (c : BitVec 32) (a b : List (BitVec 8)) : extS c (a ++ b) = extS (extS c a) b := by simp [extS]
def hi8 (w : BitVec 32) : BitVec 8 := w.extractLsb' 24 8
end Go.Proofs.YtnchjlimkgbfpaaGreatDoor.SumPlain

namespace Go.Proofs.YtnchjlimkgbfpaaGreatDoor.SumPlain
def ob (l : List Int) : List (BitVec 8) := l.map (BitVec.ofInt 8)
theorem ob_append (a b : List Int) : ob (a ++ b) = ob a ++ ob b := by simp [ob]
def ext (c : BitVec 32) (l : List Int) : BitVec 32 := extS c (ob l)
theorem ext_app (c : BitVec 32) (a b : List Int) : ext c (a ++ b) = ext (ext c a) b := by
  unfold ext
  rw [ob_append, ext_append]
theorem ext_snoc (c : BitVec 32) (a : List Int) (x : Int) : ext c (a ++ [x]) = octS (ext c a) (BitVec.ofInt 8 x) := by
  rw [ext_app]
  rfl
theorem u32_of (c : BitVec 32) : (c.toNat : Int) < 4294967296 := by
  have := c.isLt
  omega
theorem xor32 (a b : BitVec 32) : bits .xor .u32 (a.toNat : Int) (b.toNat : Int) = ((a ^^^ b).toNat : Int) := by
  rw [u32_xor_nat a.toNat b.toNat a.isLt b.isLt, BitVec.toNat_xor]
theorem shl32 (c : BitVec 32) (n : Nat) : ((c.toNat : Int) * 2 ^ n) % 4294967296 = ((c <<< n).toNat : Int) := by
  rw [BitVec.toNat_shiftLeft, Nat.shiftLeft_eq, Int.natCast_emod, Int.natCast_mul, Int.natCast_pow]
  rfl
theorem msb_big (c : BitVec 32) : c.msb = decide (2147483648 ≤ c.toNat) := by
  rw [BitVec.msb_eq_decide]
theorem and_top (c : BitVec 32) : bits .and .u32 (c.toNat : Int) 2147483648 = if c.msb then 2147483648 else 0 := by
  have e := u32_and_nat c.toNat 2147483648 c.isLt (by decide)
  refine e.trans ?_
  have t : (c.toNat &&& 2147483648) = (c &&& 0x80000000#32).toNat := by rw [BitVec.toNat_and]; rfl
  have f : c &&& 0x80000000#32 = if c.msb then 0x80000000#32 else 0#32 := by
    apply BitVec.eq_of_getLsbD_eq
    intro i hi
    have h2 : ∀ i, i < 32 → (0x80000000#32).getLsbD i = decide (i = 31) := by decide
    rw [BitVec.getLsbD_and, h2 i hi]
    by_cases k : i = 31
    · subst k
      rw [← BitVec.msb_eq_getLsbD_last c]
      cases c.msb <;> simp
    · cases c.msb <;> simp [k, h2 i hi]
  rw [t, f]
  cases c.msb <;> rfl
theorem shr_top (c : BitVec 32) : (c.toNat : Int) / 2147483648 = if c.msb then 1 else 0 := by
  have h := c.isLt
  rw [msb_big]
  by_cases k : 2147483648 ≤ c.toNat
  · simp [k]; omega
  · simp [k]; omega
theorem stp_big (c : BitVec 32) (h : c.msb = true) : bits .xor .u32 ((c <<< 1).toNat : Int) 79764919 = ((stp c).toNat : Int) := by
  have e := xor32 (c <<< 1) poly
  have p : (poly.toNat : Int) = 79764919 := by decide
  rw [p] at e
  rw [e]
  unfold stp
  rw [h]
  rfl
theorem stp_small (c : BitVec 32) (h : c.msb = false) : c <<< 1 = stp c := by
  unfold stp
  rw [h]
  simp
theorem stpN_succ (n : Nat) (c : BitVec 32) : stpN (n + 1) c = stp (stpN n c) := stpN_add n 1 c
theorem ob8 (x : Int) (h0 : 0 ≤ x) (h1 : x ≤ 255) : (BitVec.ofInt 8 x).toNat = x.toNat := by
  obtain ⟨n, rfl⟩ := Int.eq_ofNat_of_zero_le h0
  rw [BitVec.ofInt_natCast, BitVec.toNat_ofNat]
  simp
  omega
theorem top_int (x : Int) (h0 : 0 ≤ x) (h1 : x ≤ 255) : ((top (BitVec.ofInt 8 x)).toNat : Int) = x * 16777216 := by
  unfold top
  rw [BitVec.toNat_shiftLeft, BitVec.toNat_setWidth, ob8 x h0 h1, Nat.shiftLeft_eq]
  omega
theorem in_top (c : BitVec 32) (x : Int) (h0 : 0 ≤ x) (h1 : x ≤ 255) : bits .xor .u32 (c.toNat : Int) (x * 16777216) = ((c ^^^ top (BitVec.ofInt 8 x)).toNat : Int) := by
  rw [← top_int x h0 h1, xor32]
def lastL (c : BitVec 32) : List Int := [(c.toNat : Int) / 16777216 % 256, (c.toNat : Int) / 65536 % 256, (c.toNat : Int) / 256 % 256, (c.toNat : Int) % 256]
theorem lastL_len (c : BitVec 32) : (lastL c).length = 4 := rfl
theorem lastL_octet (c : BitVec 32) : ∀ x ∈ lastL c, 0 ≤ x ∧ x ≤ 255 := by
  intro x hx
  simp only [lastL, List.mem_cons, List.mem_nil_iff, or_false] at hx
  rcases hx with rfl | rfl | rfl | rfl <;> omega
def ones : BitVec 32 := 0xffffffff#32
def bareOf (l : List Int) : List Int × Int := if l.length < 4 then ([], 8) else if l.drop (l.length - 4) = lastL (ext ones (l.take (l.length - 4))) then (l.take (l.length - 4), 0) else ([], 21)
end Go.Proofs.YtnchjlimkgbfpaaGreatDoor.SumPlain

namespace Go.Proofs.YtnchjlimkgbfpaaGreatDoor
open Go.RowKit SumPlain
set_option linter.unusedVariables false
set_option maxRecDepth 20000
theorem shl1 (r : BitVec 32) : (r.toNat : Int) * (2 : Int) % (4294967296 : Int) = ((r <<< 1).toNat : Int) := shl32 r 1
theorem shl1_small (r : BitVec 32) (h : r.msb = false) : (r.toNat : Int) * (2 : Int) = ((stp r).toNat : Int) := by
  rw [← stp_small r h, ← shl1]
  have e := msb_big r
  rw [h] at e
  have := of_decide_eq_false e.symm
  omega
theorem ret_u32 {a b : Int} (h : a = b) : Value.int .u32 a = .int .u32 b := by rw [h]
set_option maxHeartbeats 400000 in
theorem shifted_any (c : BitVec 32) (w : World) :
    Calls Tryz.prog 211 #[.int .u32 (c.toNat : Int)] w fun e w' => e = .returned (.int .u32 ((stpN 8 c).toNat : Int)) ∧ w' = w := by
  go_enter Tryz.func211, Tryz.ntmps211
  go_wp2
  go_loopw [0, 4] (fun s i wr => ∃ k : Nat, k ≤ 8 ∧ i = .int .i64 k ∧ s = .int .u32 ((stpN k c).toNat : Int) ∧ wr = w) (fun _ i _ => 8 - (intOf i).toNat)
  case atStart => exact ⟨0, Nat.zero_le _, rfl, rfl, rfl⟩
  case round =>
    obtain ⟨k, hk, rfl, rfl, rfl⟩ := hrel
    by_cases hlt : k < 8
    · have hlt' : (k : Int) < 8 := by omega
      have HS : Hid (stpN (k + 1) c = stp (stpN k c)) := stpN_succ k c
      generalize stpN k c = r at *
      have hu := u32_of r
      have ha := and_top r
      cases hm : r.msb
      · rw [hm] at ha
        simp only [Bool.false_eq_true, if_false] at ha
        go_wp2
        exact ⟨⟨k + 1, by omega, by go_num, ret_u32 (by rw [HS.out, shl1, stp_small r hm]), trivial⟩, by simp [intOf]; omega⟩
      · rw [hm] at ha
        simp only [if_true] at ha
        go_wp2
        exact ⟨⟨k + 1, by omega, by go_num, ret_u32 (by rw [HS.out, shl1, stp_big r hm]), trivial⟩, by simp [intOf]; omega⟩
    · have hlt' : ¬ (k : Int) < 8 := by omega
      obtain rfl : k = 8 := by omega
      go_wp2
      go_ret
      exact ⟨rfl, rfl⟩
theorem Octs.at {w : World} {v : Value} {l : List Int} (h : Octs w v l) (k : Nat) (hk : k < l.length) :
    ∃ b off cap, v = .slice (some ⟨b, off, none⟩) l.length cap ∧ l.length ≤ cap ∧ cap ≤ maxLen ∧ w.cell? ⟨b, off + k, none⟩ = some (.int .u8 (l.getD k 0)) := by
  obtain ⟨_, h⟩ := h
  rcases h with ⟨rfl, _⟩ | ⟨hn, b, off, cap, rfl, hc, hm, hj⟩
  · simp at hk
  · exact ⟨b, off, cap, rfl, hc, hm, hj k _ (by simp [List.getD, hk])⟩
theorem Octs.len {w : World} {v : Value} {l : List Int} (h : Octs w v l) : ∃ a cap, v = .slice a l.length cap ∧ l.length ≤ cap ∧ l.length ≤ maxLen := by
  obtain ⟨_, h⟩ := h
  rcases h with ⟨rfl, a, cap, rfl, _⟩ | ⟨hn, b, off, cap, rfl, hc, hm, hj⟩
  · exact ⟨a, cap, rfl, Nat.zero_le _, Nat.zero_le _⟩
  · exact ⟨_, cap, rfl, hc, by omega⟩
theorem Octs.oct {w : World} {v : Value} {l : List Int} (h : Octs w v l) (k : Nat) (hk : k < l.length) : 0 ≤ l.getD k 0 ∧ l.getD k 0 ≤ 255 := h.1 _ (by simp [List.getD, hk])
set_option maxHeartbeats 400000 in
theorem extend_any (c : BitVec 32) (l : List Int) (v : Value) (w : World) (hv : Octs w v l) :
    Calls Tryz.prog 187 #[.int .u32 (c.toNat : Int), v] w fun e w' => e = .returned (.int .u32 ((ext c l).toNat : Int)) ∧ w' = w := by
  have HV : Hid (Octs w v l) := hv
  obtain ⟨a, cap, rfl, hcap, hmax⟩ := hv.len
  clear hv
  unfold maxLen at hmax
  go_enter Tryz.func187, Tryz.ntmps187
  go_wp2
  go_loopw [0, 9] (fun s i wr => ∃ k : Nat, k ≤ l.length ∧ i = .int .i64 k ∧ s = .int .u32 ((ext c (l.take k)).toNat : Int) ∧ wr = w) (fun _ i _ => l.length - (intOf i).toNat)
  case atStart => exact ⟨0, Nat.zero_le _, rfl, rfl, rfl⟩
  case round =>
    obtain ⟨k, hk, rfl, rfl, rfl⟩ := hrel
    by_cases hlt : k < l.length
    · have hlt' : (k : Int) < (l.length : Int) := by omega
      have HS : Hid (ext c (l.take (k + 1)) = octS (ext c (l.take k)) (BitVec.ofInt 8 (l.getD k 0))) := by unfold Hid; rw [take_snoc l k 0 hlt, ext_snoc]
      obtain ⟨b, off, cap', e, _, _, hcell⟩ := HV.out.at k hlt
      simp at e
      obtain ⟨rfl, rfl⟩ := e
      obtain ⟨x0, x1⟩ := HV.out.oct k hlt
      generalize ext c (l.take k) = r at *
      generalize l.getD k 0 = x at *
      have hu := u32_of r
      have HT : Hid (bits .xor .u32 (r.toNat : Int) (x * 16777216) = ((r ^^^ top (BitVec.ofInt 8 x)).toNat : Int)) := in_top r x x0 x1
      go_wp2_with fail
      rw [HT.out]
      refine (shifted_any _ _).mono ?_
      rintro e w1 ⟨rfl, rfl⟩
      go_wp2
      exact ⟨⟨k + 1, by omega, by go_num, ret_u32 (by rw [HS.out]; rfl), trivial⟩, by simp [intOf]; omega⟩
    · have hlt' : ¬ (k : Int) < (l.length : Int) := by omega
      obtain rfl : k = l.length := by omega
      rw [List.take_length]
      go_wp2
      go_ret
      exact ⟨rfl, rfl⟩
theorem sum_any (l : List Int) (v : Value) (w : World) (hv : Octs w v l) :
    Calls Tryz.prog 157 #[v] w fun e w' => e = .returned (.int .u32 ((ext ones l).toNat : Int)) ∧ w' = w := by
  have HV : Hid (Octs w v l) := hv
  clear hv
  go_enter Tryz.func157, Tryz.ntmps157
  go_wp2_with fail
  refine (extend_any ones l _ _ HV.out).mono ?_
  rintro e w1 ⟨rfl, rfl⟩
  go_wp2
  go_ret
  exact ⟨rfl, rfl⟩
set_option maxHeartbeats 400000 in
theorem refExtend_any (c : BitVec 32) (l : List Int) (v : Value) (w : World) (hv : Octs w v l) :
    Calls Tryz.prog 159 #[.int .u32 (c.toNat : Int), v] w fun e w' => e = .returned (.int .u32 ((ext c l).toNat : Int)) ∧ w' = w := by
  have HV : Hid (Octs w v l) := hv
  obtain ⟨a, cap, rfl, hcap, hmax⟩ := hv.len
  clear hv
  unfold maxLen at hmax
  go_enter Tryz.func159, Tryz.ntmps159
  go_wp2
  go_loopw [0, 5] (fun s i wr => ∃ k : Nat, k ≤ l.length ∧ i = .int .i64 k ∧ s = .int .u32 ((ext c (l.take k)).toNat : Int) ∧ wr = w) (fun _ i _ => l.length - (intOf i).toNat)
  case atStart => exact ⟨0, Nat.zero_le _, rfl, rfl, rfl⟩
  case round =>
    obtain ⟨k, hk, rfl, rfl, rfl⟩ := hrel
    by_cases hlt : k < l.length
    · have hlt' : (k : Int) < (l.length : Int) := by omega
      have HS : Hid (ext c (l.take (k + 1)) = octS (ext c (l.take k)) (BitVec.ofInt 8 (l.getD k 0))) := by unfold Hid; rw [take_snoc l k 0 hlt, ext_snoc]
      obtain ⟨b, off, cap', e, _, _, hcell⟩ := HV.out.at k hlt
      simp at e
      obtain ⟨rfl, rfl⟩ := e
      obtain ⟨x0, x1⟩ := HV.out.oct k hlt
      generalize ext c (l.take k) = r at *
      generalize l.getD k 0 = x at *
      have hu := u32_of r
      have HT : Hid (bits .xor .u32 (r.toNat : Int) (x * 16777216) = ((r ^^^ top (BitVec.ofInt 8 x)).toNat : Int)) := in_top r x x0 x1
      go_wp2_with fail
      rw [HT.out]
      have HS2 : Hid (ext c (l.take (k + 1)) = stpN 8 (r ^^^ top (BitVec.ofInt 8 x))) := HS.out
      clear HS HT
      generalize r ^^^ top (BitVec.ofInt 8 x) = r8 at *
      go_loopw [0, 6] (fun s i wx => ∃ j : Nat, j ≤ 8 ∧ i = .int .i64 j ∧ s = .int .u32 ((stpN j r8).toNat : Int) ∧ wx = wr) (fun _ i _ => 8 - (intOf i).toNat)
      case atStart => exact ⟨0, Nat.zero_le _, rfl, rfl, rfl⟩
      case round =>
        obtain ⟨j, hj, rfl, rfl, rfl⟩ := hrel
        by_cases hlt8 : j < 8
        · have hlt8' : (j : Int) < 8 := by omega
          have HS : Hid (stpN (j + 1) r8 = stp (stpN j r8)) := stpN_succ j r8
          generalize stpN j r8 = q at *
          have hu := u32_of q
          have ha := shr_top q
          cases hm : q.msb
          · rw [hm] at ha
            simp only [Bool.false_eq_true, if_false] at ha
            go_wp2
            exact ⟨⟨j + 1, by omega, by go_num, ret_u32 (by rw [HS.out, shl1_small q hm]), trivial⟩, by simp [intOf]; omega⟩
          · rw [hm] at ha
            simp only [if_true] at ha
            go_wp2
            exact ⟨⟨j + 1, by omega, by go_num, ret_u32 (by rw [HS.out, shl1, stp_big q hm]), trivial⟩, by simp [intOf]; omega⟩
        · have hlt8' : ¬ (j : Int) < 8 := by omega
          obtain rfl : j = 8 := by omega
          go_wp2
          exact ⟨⟨k + 1, by omega, by go_num, ret_u32 (by rw [HS2.out]), trivial⟩, by simp [intOf]; omega⟩
    · have hlt' : ¬ (k : Int) < (l.length : Int) := by omega
      obtain rfl : k = l.length := by omega
      rw [List.take_length]
      go_wp2
      go_ret
      exact ⟨rfl, rfl⟩
theorem refSum_any (l : List Int) (v : Value) (w : World) (hv : Octs w v l) :
    Calls Tryz.prog 127 #[v] w fun e w' => e = .returned (.int .u32 ((ext ones l).toNat : Int)) ∧ w' = w := by
  have HV : Hid (Octs w v l) := hv
  clear hv
  go_enter Tryz.func127, Tryz.ntmps127
  go_wp2_with fail
  refine (refExtend_any ones l _ _ HV.out).mono ?_
  rintro e w1 ⟨rfl, rfl⟩
  go_wp2
  go_ret
  exact ⟨rfl, rfl⟩
set_option maxHeartbeats 400000 in
theorem copied_any (l : List Int) (v : Value) (w : World) (hv : Octs w v l) (hl : l.length ≤ 140737488355328) :
    Calls Tryz.prog 95 #[v] w fun e w' => ∃ v', e = .returned v' ∧ OwnB w' w.heap.size v' l ∧ Below w.heap.size w w' := by
  have HV : Hid (Octs w v l) := hv
  clear hv
  go_enter Tryz.func95, Tryz.ntmps95
  go_wp2_with (at_builtin; refine wpList_append_octs _ rfl _ _ rfl w.heap.size _ [] rfl (World.ownsRow_nil _ _ _ _) _ l rfl HV.out ?c1 (Nat.le_refl _) ?_)
  case c1 => simpa using hl
  intro v' w' hown hg
  go_wp2
  go_ret
  refine ⟨_, rfl, hown, ?_⟩
  exact (Below.refl _ _).grown hg (Nat.le_refl _) (by simp [Value.ownBlock])
theorem same_any (l1 l2 : List Int) (v1 v2 : Value) (w : World) (h1 : Octs w v1 l1) (h2 : Octs w v2 l2) :
    Calls Tryz.prog 46 #[v1, v2] w fun e w' => e = .returned (.bool (decide (l1 = l2))) ∧ w' = w := by
  have k1 := run_convert_octs l1 v1 w h1
  have k2 := run_convert_octs l2 v2 w h2
  have H : Hid (((strOfNums l1).toList == (strOfNums l2).toList) = decide (l1 = l2)) := str_eq l1 l2 h1.1 h2.1
  go_enter Tryz.func46, Tryz.ntmps46
  go_wp2
  go_ret
  exact ⟨ret_bool H.out, rfl⟩
end Go.Proofs.YtnchjlimkgbfpaaGreatDoor

namespace Go.Proofs.YtnchjlimkgbfpaaGreatDoor
open Go.RowKit SumPlain
set_option linter.unusedVariables false
set_option maxRecDepth 20000
theorem lastL_four (c : BitVec 32) : ∃ x0 x1 x2 x3 : Int, lastL c = [x0, x1, x2, x3] ∧ (0 ≤ x0 ∧ x0 ≤ 255) ∧ (0 ≤ x1 ∧ x1 ≤ 255) ∧ (0 ≤ x2 ∧ x2 ≤ 255) ∧ (0 ≤ x3 ∧ x3 ≤ 255) :=
  ⟨_, _, _, _, rfl, by omega, by omega, by omega, by omega⟩
set_option maxHeartbeats 1000000 in
theorem octets_any (c : BitVec 32) (x0 x1 x2 x3 : Int) (h : lastL c = [x0, x1, x2, x3]) (w : World) :
    Calls Tryz.prog 156 #[.int .u32 (c.toNat : Int)] w fun e w' => e = .returned (.agg #[.int .u8 x0, .int .u8 x1, .int .u8 x2, .int .u8 x3]) ∧
      w' = (w.alloc (.cells #[.int .u8 x0, .int .u8 x1, .int .u8 x2, .int .u8 x3] 241)).alloc (.cells #[.int .u8 x0, .int .u8 x1, .int .u8 x2, .int .u8 x3] 241) := by
  have hu := u32_of c
  simp only [lastL, List.cons.injEq, and_true] at h
  obtain ⟨h0, h1, h2, h3⟩ := h
  have e0 : (c.toNat : Int) / 16777216 = x0 := by omega
  clear h0
  have H0 : Hid ((c.toNat : Int) / 16777216 = x0) := e0
  have H1 : Hid ((c.toNat : Int) / 65536 % 256 = x1) := h1
  have H2 : Hid ((c.toNat : Int) / 256 % 256 = x2) := h2
  have H3 : Hid ((c.toNat : Int) % 256 = x3) := h3
  clear e0 h1 h2 h3
  go_enter Tryz.func156, Tryz.ntmps156
  go_wp2
  refine wp_loop_rounds 5 ?_
  rw [rounds_succ]
  go_wp2
  rw [rounds_succ]
  go_wp2
  rw [rounds_succ]
  go_wp2
  rw [rounds_succ]
  go_wp2
  rw [rounds_succ]
  go_wp2
  go_returns
  rw [H0.out, H1.out, H2.out, H3.out]
  exact ⟨rfl, rfl⟩
end Go.Proofs.YtnchjlimkgbfpaaGreatDoor

namespace Go.Proofs.YtnchjlimkgbfpaaGreatDoor
open Go.RowKit SumPlain
set_option linter.unusedVariables false
set_option maxRecDepth 20000
def guardOf (l : List Int) : List Int := l ++ lastL (ext ones l)
theorem guard_octet (l : List Int) (h : ∀ x ∈ l, 0 ≤ x ∧ x ≤ 255) : ∀ x ∈ guardOf l, 0 ≤ x ∧ x ≤ 255 := by
  intro x hx
  rcases List.mem_append.1 hx with h1 | h1
  · exact h x h1
  · exact lastL_octet _ x h1
end Go.Proofs.YtnchjlimkgbfpaaGreatDoor
