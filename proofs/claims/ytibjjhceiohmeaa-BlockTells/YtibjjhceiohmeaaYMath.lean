/- What the program reads of a block's octets are its versions; its Decode says what the document's says: plain lists. -/
import Derived.Test.YtibjjhceiohmeaaYRead
namespace Go.Proofs.Ytibjjhceiohmeaa
open Go.RowKit SumPlain
set_option linter.unusedVariables false

theorem stepN_back (top : Int) (n : Nat) (pre r : List Int) (h : (n : Int) ≤ top) (h1 : (n : Int) ≤ 18446744073709551615) : stepN top (pre ++ (octets n ++ r)) pre.length = some (n, pre.length + (octets n).length) := by
  unfold stepN
  rw [List.drop_left, getOf_octets n (by omega) h1]
  simp only
  rw [if_pos ⟨trivial, by omega⟩]
  simp
theorem numsP_back (h n k s v : Nat) (r : List Int) (h1 : n ≤ h) (hh : h ≤ 1099511627776) (h2 : k ≤ 96) (h3 : s ≤ 1099511627776) (h4 : v ≤ 512) :
    numsP h (octets n ++ (octets k ++ (octets s ++ (octets v ++ r)))) = some (n, k, s, v, (octets n).length + (octets k).length + (octets s).length + (octets v).length) := by
  have a1 := stepN_back h n [] (octets k ++ (octets s ++ (octets v ++ r))) (by omega) (by omega)
  have a2 := stepN_back 96 k (octets n) (octets s ++ (octets v ++ r)) (by omega) (by omega)
  have a3 := stepN_back 1099511627776 s (octets n ++ octets k) (octets v ++ r) (by omega) (by omega)
  have a4 := stepN_back 512 v (octets n ++ octets k ++ octets s) r (by omega) (by omega)
  simp only [List.append_assoc, List.length_append, List.nil_append, List.length_nil, Nat.zero_add] at a1 a2 a3 a4
  unfold numsP
  rw [a1]
  simp only
  rw [a2]
  simp only
  rw [a3]
  simp only
  rw [← Nat.add_assoc] at a4
  rw [a4]
theorem entQ_back (i : Nat) (prev : List Int) (x : En) (h : mayE x = true) (hp : prev.length ≤ 1099511627776) (r : List Int) : entQ prev (entO (shareN i prev x) x ++ r) = some (x, (entO (shareN i prev x) x).length) := by
  obtain ⟨k1, k2, s1, s2, d1, d2, v1⟩ := mayE_le h
  obtain ⟨n1, n2, n3⟩ := share_le i prev x
  generalize shareN i prev x = n at *
  obtain ⟨s, hs⟩ := Int.eq_ofNat_of_zero_le (show 0 ≤ x.seq by omega)
  have hs' : x.seq = (s : Int) := hs
  have e : entO n x ++ r = octets (n : Nat) ++ (octets (((nums x.key).length - n : Nat) : Nat) ++ (octets (s : Nat) ++ (octets ((nums x.val).length : Nat) ++ (x.kind :: ((nums x.key).drop n ++ (nums x.val ++ r)))))) := by
    unfold entO
    rw [hs']
    simp
  have hl : (entO n x).length = (octets (n : Nat)).length + (octets (((nums x.key).length - n : Nat) : Nat)).length + (octets (s : Nat)).length + (octets ((nums x.val).length : Nat)).length + 1 + ((nums x.key).length - n) + (nums x.val).length := by
    unfold entO
    rw [hs']
    simp
    omega
  unfold entQ
  rw [hl, e, numsP_back prev.length n _ s _ _ n1 hp (by omega) (by omega) v1]
  simp only
  generalize octets (n : Nat) = O0
  generalize octets (((nums x.key).length - n : Nat) : Nat) = O1
  generalize octets (s : Nat) = O2
  generalize octets ((nums x.val).length : Nat) = O3
  have e2 : O0 ++ (O1 ++ (O2 ++ (O3 ++ (x.kind :: ((nums x.key).drop n ++ (nums x.val ++ r)))))) = (O0 ++ (O1 ++ (O2 ++ O3))) ++ (x.kind :: ((nums x.key).drop n ++ (nums x.val ++ r))) := by simp
  rw [e2]
  generalize hP : O0 ++ (O1 ++ (O2 ++ O3)) = P
  have hpl : O0.length + O1.length + O2.length + O3.length = P.length := by rw [← hP]; simp; omega
  rw [hpl, if_neg (by simp; omega)]
  have g1 : (P ++ (x.kind :: ((nums x.key).drop n ++ (nums x.val ++ r)))).drop (P.length + 1) = (nums x.key).drop n ++ (nums x.val ++ r) := by
    rw [List.drop_append, List.drop_eq_nil_of_le (by omega), List.nil_append, show P.length + 1 - P.length = 1 by omega]
    rfl
  have g2 : (P ++ (x.kind :: ((nums x.key).drop n ++ (nums x.val ++ r)))).drop (P.length + 1 + ((nums x.key).length - n)) = nums x.val ++ r := by
    rw [← List.drop_drop, g1, List.drop_left' (by simp)]
  have g3 : (P ++ (x.kind :: ((nums x.key).drop n ++ (nums x.val ++ r)))).getD P.length 0 = x.kind := by
    rw [List.getD_eq_getElem?_getD, List.getElem?_append_right (Nat.le_refl _)]
    simp
  rw [g1, g2, g3, List.take_left' (by simp), List.take_left, n3, List.take_append_drop, str_nums, str_nums, ← hs']
theorem readP_back : ∀ (l : List En) (i : Nat) (prev : List Int) (out : List En) (f : Nat), (∀ x ∈ l, mayE x = true) → prev.length ≤ 96 → out.length + l.length ≤ 64 → l.length < f → readP f prev out (bodyO i prev l) = some (out ++ l)
  | [], i, prev, out, f, _, _, _, hf => by
    cases f with
    | zero => omega
    | succ f => unfold readP bodyO; simp
  | x :: r, i, prev, out, f, hm, hp, hl, hf => by
    cases f with
    | zero => omega
    | succ f =>
      have hpos := entO_pos (shareN i prev x) x
      have hk := (mayE_le (hm x (by simp))).2.1
      simp only [List.length_cons] at hl hf
      have hne : bodyO i prev (x :: r) ≠ [] := by
        intro q
        have := congrArg List.length q
        unfold bodyO at this
        simp at this
        have := this.1
        rw [this] at hpos
        simp at hpos
      have he : entQ prev (bodyO i prev (x :: r)) = some (x, (entO (shareN i prev x) x).length) := by
        unfold bodyO
        exact entQ_back i prev x (hm x (by simp)) (by omega) _
      rw [readP_step hne (by omega) he]
      have hd : (bodyO i prev (x :: r)).drop (entO (shareN i prev x) x).length = bodyO (i + 1) (nums x.key) r := by
        unfold bodyO
        rw [List.drop_left]
        cases r <;> rfl
      rw [hd, readP_back r (i + 1) (nums x.key) (out ++ [x]) f (fun y hy => hm y (by simp [hy])) hk (by simp; omega) (by omega)]
      simp
theorem read_block {l : List En} (h : chkB l = 0) : readB (blockO l) = some l := by
  obtain ⟨l1, l2, hm⟩ := chkB_may h
  obtain ⟨t1, t2⟩ := tailO_len l 0 [] 0
  have hb := bodyO_len l 0 []
  unfold readB blockO
  generalize hB : bodyO 0 [] l = B at *
  generalize tailO 0 [] 0 l = T at *
  have hlen : (B ++ (T ++ [((T.length / 2 % 256 : Nat) : Int)])).length = B.length + T.length + 1 := by simp; omega
  have hlast : (B ++ (T ++ [((T.length / 2 % 256 : Nat) : Int)])).getD ((B ++ (T ++ [((T.length / 2 % 256 : Nat) : Int)])).length - 1) 0 = ((T.length / 2 % 256 : Nat) : Int) := by
    rw [hlen, ← List.append_assoc, List.getD_eq_getElem?_getD, List.getElem?_append_right (by simp)]
    simp
  rw [hlast, hlen, if_neg (by omega)]
  have hend : ((B.length + T.length + 1 : Nat) : Int) - 1 - 2 * ((T.length / 2 % 256 : Nat) : Int) = (B.length : Int) := by omega
  rw [hend, if_neg (by omega), Int.toNat_natCast, List.take_left, ← hB]
  rw [readP_back l 0 [] [] _ hm (by simp) (by simpa using l2) (by rw [hB]; omega)]
  rfl

/-- The program's Decode. -/
def decM (b : List Int) : Option (List En) → List En × Int
  | none => ([], 21)
  | some l => if encB l = (b, 0) then (l, 0) else ([], 21)
def decP (b : List Int) : List En × Int :=
  if (bareOf b).2 = 0 then decM b (readB (bareOf b).1) else ([], (bareOf b).2)
theorem encB_bare {l : List En} {b : List Int} (h : encB l = (b, 0)) : chkB l = 0 ∧ bareOf b = (blockO l, 0) := by
  unfold encB at h
  by_cases hc : chkB l = 0
  · rw [if_pos hc] at h
    simp only [Prod.mk.injEq, and_true] at h
    exact ⟨hc, by rw [← h]; exact bare_guard _⟩
  · rw [if_neg hc] at h
    simp only [Prod.mk.injEq] at h
    exact absurd h.2 hc
theorem decP_eq (b : List Int) : decP b = decB b := by
  unfold decP decB
  by_cases h1 : (bareOf b).2 = 0
  · rw [if_pos h1, if_pos h1]
    by_cases h2 : encB (toldB (bareOf b).1) = (b, 0)
    · obtain ⟨hc, hb⟩ := encB_bare h2
      have hr := read_block hc
      rw [show blockO (toldB (bareOf b).1) = (bareOf b).1 from (congrArg Prod.fst hb).symm] at hr
      rw [hr, if_pos h2]
      unfold decM
      simp only
      rw [if_pos h2]
    · rw [if_neg h2]
      cases hr : readB (bareOf b).1 with
      | none => rfl
      | some l =>
        unfold decM
        simp only
        by_cases h3 : encB l = (b, 0)
        · exfalso
          obtain ⟨hc, hb⟩ := encB_bare h3
          apply h2
          rw [hb]
          simp only
          rw [told_block hc]
          exact h3
        · rw [if_neg h3]
  · rw [if_neg h1, if_neg h1]
end Go.Proofs.Ytibjjhceiohmeaa
