/- An edit as octets, and octets as an edit: plain lists, there and back. -/
import Derived.Test.YtbknoplfjfnbcaaEMath
import Derived.Test.YtbknoplfjfnbcaaEQ
namespace Go.Proofs.Ytbknoplfjfnbcaa
open Go.RowKit
set_option linter.unusedVariables false
set_option linter.unusedSimpArgs false

def txtE (s : ByteArray) : List Int := octets (s.size : Int) ++ nums s
def metO (m : Me) : List Int := octets m.id ++ (octets m.lvl ++ (octets m.cnt ++ (txtE m.low ++ txtE m.high)))
def metsO : List Me → List Int
  | [] => []
  | m :: r => metO m ++ metsO r
def idsO : List Int → List Int
  | [] => []
  | i :: r => octets i ++ idsO r
/-- An edit's octets. -/
def edO (seq next : Int) (drop : List Int) (add : List Me) : List Int :=
  octets seq ++ (octets next ++ (octets (drop.length : Int) ++ (idsO drop ++ (octets (add.length : Int) ++ metsO add))))
def numE (n : Int) : Bool := decide (0 ≤ n ∧ n ≤ 1099511627776)
def metE (m : Me) : Bool := numE m.id && (numE m.lvl && (numE m.cnt && decide (m.low.size ≤ 96 ∧ m.high.size ≤ 96)))
/-- What Encode answers. -/
def encE (seq next : Int) (drop : List Int) (add : List Me) : List Int × Int :=
  if 256 < drop.length ∨ 256 < add.length then ([], 3) else
    if (numE seq && (numE next && (drop.all numE && add.all metE))) = true then (edO seq next drop add, 0) else ([], 1)

/-! ### reading -/
def txtP (l : List Int) : Except Int (ByteArray × List Int) :=
  match numQ 1099511627776 1 l with
  | .error e => .error e
  | .ok (n, r) => if 96 < n then .error 1 else if (r.length : Int) < n then .error 8 else .ok (strOfNums (r.take n.toNat), r.drop n.toNat)
def cntQ (l : List Int) : Except Int (Int × List Int) :=
  match numQ 1099511627776 1 l with
  | .error e => .error e
  | .ok (n, r) => if 256 < n then .error 3 else .ok (n, r)
theorem cntQ_back (n : Int) (h0 : 0 ≤ n) (h1 : n ≤ 256) (r : List Int) : cntQ (octets n ++ r) = .ok (n, r) := by
  unfold cntQ
  rw [numQ_back 1099511627776 1 n h0 (by omega) (by omega)]
  simp only
  rw [if_neg (by omega)]
def idsP : Nat → List Int → Except Int (List Int × List Int)
  | 0, l => .ok ([], l)
  | n + 1, l => match numQ 1099511627776 1 l with
    | .error e => .error e
    | .ok (i, r) => match idsP n r with
      | .error e => .error e
      | .ok (is, t) => .ok (i :: is, t)
def metP (l : List Int) : Except Int (Me × List Int) :=
  match numQ 1099511627776 1 l with
  | .error e => .error e
  | .ok (i, l1) => match numQ 1099511627776 1 l1 with
    | .error e => .error e
    | .ok (v, l2) => match numQ 1099511627776 1 l2 with
      | .error e => .error e
      | .ok (c, l3) => match txtP l3 with
        | .error e => .error e
        | .ok (lo, l4) => match txtP l4 with
          | .error e => .error e
          | .ok (hi, l5) => .ok (⟨i, v, c, lo, hi⟩, l5)
def metsP : Nat → List Int → Except Int (List Me × List Int)
  | 0, l => .ok ([], l)
  | n + 1, l => match metP l with
    | .error e => .error e
    | .ok (m, r) => match metsP n r with
      | .error e => .error e
      | .ok (ms, t) => .ok (m :: ms, t)
/-- What Decode answers. -/
def decE (l : List Int) : Except Int (Int × Int × List Int × List Me) :=
  match numQ 1099511627776 1 l with
  | .error e => .error e
  | .ok (s, l1) => match numQ 1099511627776 1 l1 with
    | .error e => .error e
    | .ok (x, l2) => match cntQ l2 with
      | .error e => .error e
      | .ok (n, l3) => match idsP n.toNat l3 with
        | .error e => .error e
        | .ok (is, l4) => match cntQ l4 with
          | .error e => .error e
          | .ok (k, l5) => match metsP k.toNat l5 with
            | .error e => .error e
            | .ok (ms, l6) => if l6 = [] then .ok (s, x, is, ms) else .error 23

theorem numE_iff {n : Int} : numE n = true ↔ 0 ≤ n ∧ n ≤ 1099511627776 := by unfold numE; simp
theorem metE_iff {m : Me} : metE m = true ↔ (0 ≤ m.id ∧ m.id ≤ 1099511627776) ∧ (0 ≤ m.lvl ∧ m.lvl ≤ 1099511627776) ∧ (0 ≤ m.cnt ∧ m.cnt ≤ 1099511627776) ∧ m.low.size ≤ 96 ∧ m.high.size ≤ 96 := by
  unfold metE; simp [numE_iff]

theorem txtP_back (s : ByteArray) (h : s.size ≤ 96) (r : List Int) : txtP (txtE s ++ r) = .ok (s, r) := by
  unfold txtP txtE
  rw [List.append_assoc, numQ_back 1099511627776 1 _ (by omega) (by omega) (by omega)]
  have hl : (nums s).length = s.size := nums_length s
  simp only
  rw [if_neg (by omega), if_neg (by rw [List.length_append]; omega), Int.toNat_natCast, ← hl, List.take_left, List.drop_left, str_nums]
theorem idsP_back : ∀ (is : List Int) (r : List Int), (∀ i ∈ is, numE i = true) → idsP is.length (idsO is ++ r) = .ok (is, r)
  | [], r, _ => rfl
  | i :: is, r, h => by
    have hi := numE_iff.1 (h i (by simp))
    rw [List.length_cons, idsP, idsO, List.append_assoc, numQ_back _ 1 i hi.1 hi.2 (by omega)]
    simp only
    rw [idsP_back is r (fun j hj => h j (by simp [hj]))]
theorem metP_back (m : Me) (h : metE m = true) (r : List Int) : metP (metO m ++ r) = .ok (m, r) := by
  obtain ⟨h1, h2, h3, h4, h5⟩ := metE_iff.1 h
  unfold metP metO
  simp only [List.append_assoc]
  rw [numQ_back _ 1 _ h1.1 h1.2 (by omega)]
  simp only
  rw [numQ_back _ 1 _ h2.1 h2.2 (by omega)]
  simp only
  rw [numQ_back _ 1 _ h3.1 h3.2 (by omega)]
  simp only
  rw [txtP_back _ h4]
  simp only
  rw [txtP_back _ h5]
theorem metsP_back : ∀ (ms : List Me) (r : List Int), (∀ m ∈ ms, metE m = true) → metsP ms.length (metsO ms ++ r) = .ok (ms, r)
  | [], r, _ => rfl
  | m :: ms, r, h => by
    rw [List.length_cons, metsP, metsO, List.append_assoc, metP_back m (h m (by simp))]
    simp only
    rw [metsP_back ms r (fun j hj => h j (by simp [hj]))]
theorem encE_zero {s x : Int} {is : List Int} {ms : List Me} : (encE s x is ms).2 = 0 ↔ is.length ≤ 256 ∧ ms.length ≤ 256 ∧ numE s = true ∧ numE x = true ∧ (∀ i ∈ is, numE i = true) ∧ (∀ m ∈ ms, metE m = true) := by
  unfold encE
  by_cases h : 256 < is.length ∨ 256 < ms.length
  · rw [if_pos h]
    refine ⟨fun k => absurd k (by decide), fun k => by omega⟩
  · rw [if_neg h]
    by_cases h2 : (numE s && (numE x && (is.all numE && ms.all metE))) = true
    · rw [if_pos h2]
      refine ⟨fun _ => ?_, fun _ => rfl⟩
      simp only [Bool.and_eq_true, List.all_eq_true] at h2
      exact ⟨by omega, by omega, h2.1, h2.2.1, h2.2.2.1, h2.2.2.2⟩
    · rw [if_neg h2]
      refine ⟨fun k => absurd k (by decide), fun k => absurd ?_ h2⟩
      simp only [Bool.and_eq_true, List.all_eq_true]
      exact ⟨k.2.2.1, k.2.2.2.1, k.2.2.2.2.1, k.2.2.2.2.2⟩
theorem encE_good {s x : Int} {is : List Int} {ms : List Me} (h : (encE s x is ms).2 = 0) : encE s x is ms = (edO s x is ms, 0) := by
  obtain ⟨h1, h2, h3, h4, h5, h6⟩ := encE_zero.1 h
  unfold encE
  rw [if_neg (by omega), if_pos]
  simp only [Bool.and_eq_true, List.all_eq_true]
  exact ⟨h3, h4, h5, h6⟩
theorem encE_bad {s x : Int} {is : List Int} {ms : List Me} (h : (encE s x is ms).2 ≠ 0) : (encE s x is ms).1 = [] := by
  unfold encE at *
  by_cases h1 : 256 < is.length ∨ 256 < ms.length
  · rw [if_pos h1]
  · rw [if_neg h1] at h ⊢
    by_cases h2 : (numE s && (numE x && (is.all numE && ms.all metE))) = true
    · rw [if_pos h2] at h; exact absurd rfl h
    · rw [if_neg h2]
/-- An edit comes back from its octets. -/
theorem dec_encE {s x : Int} {is : List Int} {ms : List Me} (h : (encE s x is ms).2 = 0) : decE (encE s x is ms).1 = .ok (s, x, is, ms) := by
  obtain ⟨h1, h2, h3, h4, h5, h6⟩ := encE_zero.1 h
  rw [encE_good h]
  have h3' := numE_iff.1 h3
  have h4' := numE_iff.1 h4
  show decE (edO s x is ms) = _
  unfold decE edO
  rw [numQ_back _ 1 s h3'.1 h3'.2 (by omega)]
  simp only
  rw [numQ_back _ 1 x h4'.1 h4'.2 (by omega)]
  simp only
  rw [cntQ_back (is.length : Int) (by omega) (by omega)]
  simp only [Int.toNat_natCast]
  rw [idsP_back is _ h5]
  simp only
  rw [cntQ_back (ms.length : Int) (by omega) (by omega)]
  simp only [Int.toNat_natCast]
  have := metsP_back ms [] h6
  rw [List.append_nil] at this
  rw [this]
  simp

/-! ### what is read is built again -/
def OctA (l : List Int) : Prop := ∀ y ∈ l, 0 ≤ y ∧ y ≤ 255
theorem OctA.tail {l p r : List Int} (h : OctA l) (e : l = p ++ r) : OctA r := fun y hy => h y (by rw [e]; exact List.mem_append_right _ hy)
theorem numQ_againE {most code : Int} {l : List Int} (hx : OctA l) {n : Int} {r : List Int} (h : numQ most code l = .ok (n, r)) : 0 ≤ n ∧ n ≤ most ∧ l = octets n ++ r := by
  unfold numQ at h
  split at h
  · rename_i h0
    split at h
    · cases h
    · rename_i hn
      rcases get_says l hx with hg | hg | ⟨m, j, hg, n0, n1, j1, jl, ho, j9⟩
      · rw [getRet_inj hg] at h0; cases h0
      · rw [getRet_inj hg] at h0; cases h0
      · rw [getRet_inj hg] at h hn
        simp only [Int.toNat_natCast, Except.ok.injEq, Prod.mk.injEq] at h hn
        obtain ⟨rfl, rfl⟩ := h
        refine ⟨n0, by omega, ?_⟩
        rw [ho, List.take_append_drop]
  · cases h
theorem cntQ_again {l : List Int} (hx : OctA l) {n : Int} {r : List Int} (h : cntQ l = .ok (n, r)) : 0 ≤ n ∧ n ≤ 256 ∧ l = octets n ++ r := by
  unfold cntQ at h
  cases e : numQ 1099511627776 1 l with
  | error c => rw [e] at h; cases h
  | ok v =>
    obtain ⟨m, q⟩ := v
    rw [e] at h
    obtain ⟨n0, n1, hl⟩ := numQ_againE hx e
    simp only at h
    split at h
    · cases h
    · simp only [Except.ok.injEq, Prod.mk.injEq] at h
      obtain ⟨rfl, rfl⟩ := h
      exact ⟨n0, by omega, hl⟩
theorem txtP_again {l : List Int} (hx : OctA l) {s : ByteArray} {r : List Int} (h : txtP l = .ok (s, r)) : s.size ≤ 96 ∧ l = txtE s ++ r := by
  unfold txtP at h
  cases e : numQ 1099511627776 1 l with
  | error c => rw [e] at h; cases h
  | ok v =>
    rw [e] at h
    obtain ⟨n, q⟩ := v
    obtain ⟨n0, n1, hl⟩ := numQ_againE hx e
    simp only at h
    split at h
    · cases h
    rename_i h96
    split at h
    · cases h
    · simp only [Except.ok.injEq, Prod.mk.injEq] at h
      obtain ⟨rfl, rfl⟩ := h
      have hq : ∀ y ∈ q.take n.toNat, 0 ≤ y ∧ y ≤ 255 := fun y hy => hx y (by rw [hl]; exact List.mem_append_right _ (List.mem_of_mem_take hy))
      have hs : (strOfNums (q.take n.toNat)).size = n.toNat := by
        rw [← nums_length, nums_str _ hq, List.length_take]; omega
      refine ⟨by omega, ?_⟩
      unfold txtE
      rw [hs, nums_str _ hq, List.append_assoc, List.take_append_drop, Int.toNat_of_nonneg n0, hl]
theorem idsP_again : ∀ {n : Nat} {l : List Int}, OctA l → ∀ {is r : List Int}, idsP n l = .ok (is, r) → is.length = n ∧ l = idsO is ++ r ∧ ∀ i ∈ is, numE i = true
  | 0, l, hx, is, r, h => by
    simp only [idsP, Except.ok.injEq, Prod.mk.injEq] at h
    obtain ⟨rfl, rfl⟩ := h
    exact ⟨rfl, rfl, by simp⟩
  | n + 1, l, hx, is, r, h => by
    rw [idsP] at h
    cases e : numQ 1099511627776 1 l with
    | error c => rw [e] at h; cases h
    | ok v =>
      obtain ⟨i, q⟩ := v
      rw [e] at h
      obtain ⟨n0, n1, hl⟩ := numQ_againE hx e
      simp only at h
      cases e2 : idsP n q with
      | error c => rw [e2] at h; cases h
      | ok v2 =>
        obtain ⟨js, t⟩ := v2
        rw [e2] at h
        simp only [Except.ok.injEq, Prod.mk.injEq] at h
        obtain ⟨rfl, rfl⟩ := h
        obtain ⟨k1, k2, k3⟩ := idsP_again (hx.tail hl) e2
        refine ⟨by rw [List.length_cons, k1], by rw [hl, k2, idsO, List.append_assoc], fun j hj => ?_⟩
        rcases List.mem_cons.1 hj with rfl | hj
        · exact numE_iff.2 ⟨n0, n1⟩
        · exact k3 j hj
theorem metP_again {l : List Int} (hx : OctA l) {m : Me} {r : List Int} (h : metP l = .ok (m, r)) : metE m = true ∧ l = metO m ++ r := by
  unfold metP at h
  cases e1 : numQ 1099511627776 1 l with
  | error c => rw [e1] at h; cases h
  | ok v1 =>
    obtain ⟨i, l1⟩ := v1
    rw [e1] at h
    obtain ⟨a1, b1, c1⟩ := numQ_againE hx e1
    have x1 := hx.tail c1
    simp only at h
    cases e2 : numQ 1099511627776 1 l1 with
    | error c => rw [e2] at h; cases h
    | ok v2 =>
      obtain ⟨v, l2⟩ := v2
      rw [e2] at h
      obtain ⟨a2, b2, c2⟩ := numQ_againE x1 e2
      have x2 := x1.tail c2
      simp only at h
      cases e3 : numQ 1099511627776 1 l2 with
      | error c => rw [e3] at h; cases h
      | ok v3 =>
        obtain ⟨c, l3⟩ := v3
        rw [e3] at h
        obtain ⟨a3, b3, c3⟩ := numQ_againE x2 e3
        have x3 := x2.tail c3
        simp only at h
        cases e4 : txtP l3 with
        | error c => rw [e4] at h; cases h
        | ok v4 =>
          obtain ⟨lo, l4⟩ := v4
          rw [e4] at h
          obtain ⟨a4, c4⟩ := txtP_again x3 e4
          have x4 := x3.tail c4
          simp only at h
          cases e5 : txtP l4 with
          | error c => rw [e5] at h; cases h
          | ok v5 =>
            obtain ⟨hi, l5⟩ := v5
            rw [e5] at h
            obtain ⟨a5, c5⟩ := txtP_again x4 e5
            simp only [Except.ok.injEq, Prod.mk.injEq] at h
            obtain ⟨rfl, rfl⟩ := h
            refine ⟨metE_iff.2 ⟨⟨a1, b1⟩, ⟨a2, b2⟩, ⟨a3, b3⟩, a4, a5⟩, ?_⟩
            unfold metO
            rw [c1, c2, c3, c4, c5]
            simp only [List.append_assoc]
theorem metsP_again : ∀ {n : Nat} {l : List Int}, OctA l → ∀ {ms : List Me} {r : List Int}, metsP n l = .ok (ms, r) → ms.length = n ∧ l = metsO ms ++ r ∧ ∀ m ∈ ms, metE m = true
  | 0, l, hx, ms, r, h => by
    simp only [metsP, Except.ok.injEq, Prod.mk.injEq] at h
    obtain ⟨rfl, rfl⟩ := h
    exact ⟨rfl, rfl, by simp⟩
  | n + 1, l, hx, ms, r, h => by
    rw [metsP] at h
    cases e : metP l with
    | error c => rw [e] at h; cases h
    | ok v =>
      obtain ⟨m, q⟩ := v
      rw [e] at h
      obtain ⟨hm, hl⟩ := metP_again hx e
      simp only at h
      cases e2 : metsP n q with
      | error c => rw [e2] at h; cases h
      | ok v2 =>
        obtain ⟨js, t⟩ := v2
        rw [e2] at h
        simp only [Except.ok.injEq, Prod.mk.injEq] at h
        obtain ⟨rfl, rfl⟩ := h
        obtain ⟨k1, k2, k3⟩ := metsP_again (hx.tail hl) e2
        refine ⟨by rw [List.length_cons, k1], by rw [hl, k2, metsO, List.append_assoc], fun j hj => ?_⟩
        rcases List.mem_cons.1 hj with rfl | hj
        · exact hm
        · exact k3 j hj
/-- What was read is built again of what was read. -/
theorem enc_decE {l : List Int} (hx : OctA l) {s x : Int} {is : List Int} {ms : List Me} (h : decE l = .ok (s, x, is, ms)) : encE s x is ms = (l, 0) := by
  unfold decE at h
  cases e1 : numQ 1099511627776 1 l with
  | error c => rw [e1] at h; cases h
  | ok v1 =>
    obtain ⟨s', l1⟩ := v1
    rw [e1] at h
    obtain ⟨a1, b1, c1⟩ := numQ_againE hx e1
    have x1 := hx.tail c1
    simp only at h
    cases e2 : numQ 1099511627776 1 l1 with
    | error c => rw [e2] at h; cases h
    | ok v2 =>
      obtain ⟨x', l2⟩ := v2
      rw [e2] at h
      obtain ⟨a2, b2, c2⟩ := numQ_againE x1 e2
      have x2 := x1.tail c2
      simp only at h
      cases e3 : cntQ l2 with
      | error c => rw [e3] at h; cases h
      | ok v3 =>
        obtain ⟨n, l3⟩ := v3
        rw [e3] at h
        obtain ⟨a3, b3, c3⟩ := cntQ_again x2 e3
        have x3 := x2.tail c3
        simp only at h
        cases e4 : idsP n.toNat l3 with
        | error c => rw [e4] at h; cases h
        | ok v4 =>
          obtain ⟨js, l4⟩ := v4
          rw [e4] at h
          obtain ⟨a4, c4, d4⟩ := idsP_again x3 e4
          have x4 := x3.tail c4
          simp only at h
          cases e5 : cntQ l4 with
          | error c => rw [e5] at h; cases h
          | ok v5 =>
            obtain ⟨k, l5⟩ := v5
            rw [e5] at h
            obtain ⟨a5, b5, c5⟩ := cntQ_again x4 e5
            have x5 := x4.tail c5
            simp only at h
            cases e6 : metsP k.toNat l5 with
            | error c => rw [e6] at h; cases h
            | ok v6 =>
              obtain ⟨ns, l6⟩ := v6
              rw [e6] at h
              obtain ⟨a6, c6, d6⟩ := metsP_again x5 e6
              simp only at h
              by_cases h6 : l6 = []
              · rw [if_pos h6] at h
                simp only [Except.ok.injEq, Prod.mk.injEq] at h
                obtain ⟨rfl, rfl, rfl, rfl⟩ := h
                subst h6
                rw [encE_good (encE_zero.2 ⟨by omega, by omega, numE_iff.2 ⟨a1, b1⟩, numE_iff.2 ⟨a2, b2⟩, d4, d6⟩)]
                have q1 : (js.length : Int) = n := by omega
                have q2 : (ns.length : Int) = k := by omega
                unfold edO
                rw [q1, q2, c1, c2, c3, c4, c5, c6]
                simp only [List.append_nil]
              · rw [if_neg h6] at h; cases h

end Go.Proofs.Ytbknoplfjfnbcaa
