/- Plain facts: the order of versions is strict; the document's order is the one sorted list of all places. -/
import Derived.Test.YtfnddbglopoghaaLOrd
namespace Go.Proofs.Ytfnddbglopoghaa
open Go.RowKit
set_option linter.unusedVariables false
set_option linter.unusedSimpArgs false

theorem blS_self : ∀ l : List UInt8, Op.bytesLess l l = false
  | [] => rfl
  | x :: l => by simp [Op.bytesLess, blS_self l]
theorem blS_trans : ∀ a b c : List UInt8, Op.bytesLess a b = true → Op.bytesLess b c = true → Op.bytesLess a c = true
  | _, [], _, h, _ => by simp [Op.bytesLess] at h
  | _, _ :: _, [], _, h => by simp [Op.bytesLess] at h
  | [], _ :: _, _ :: _, _, _ => by simp [Op.bytesLess]
  | x :: a, y :: b, z :: c, h, k => by
    simp only [Op.bytesLess, Bool.or_eq_true, decide_eq_true_eq, Bool.and_eq_true, beq_iff_eq] at h k ⊢
    rcases h with h | ⟨rfl, h⟩
    · rcases k with k | ⟨rfl, k⟩
      · exact .inl (UInt8.lt_trans h k)
      · exact .inl h
    · rcases k with k | ⟨rfl, k⟩
      · exact .inl k
      · exact .inr ⟨rfl, blS_trans a b c h k⟩
theorem blS_total : ∀ a b : List UInt8, Op.bytesLess a b = false → Op.bytesLess b a = false → a = b
  | [], [], _, _ => rfl
  | [], _ :: _, h, _ => by simp [Op.bytesLess] at h
  | _ :: _, [], _, h => by simp [Op.bytesLess] at h
  | x :: a, y :: b, h, k => by
    simp only [Op.bytesLess, Bool.or_eq_false_iff, decide_eq_false_iff_not, Bool.and_eq_false_iff, beq_eq_false_iff_ne] at h k
    have e : x = y := UInt8.le_antisymm (UInt8.not_lt.1 k.1) (UInt8.not_lt.1 h.1)
    subst e
    have h2 : Op.bytesLess a b = false := by rcases h.2 with q | q; exact absurd rfl q; exact q
    have k2 : Op.bytesLess b a = false := by rcases k.2 with q | q; exact absurd rfl q; exact q
    rw [blS_total a b h2 k2]

theorem beforeS_self (a : En) : beforeE a a = false := by simp [beforeE, blS_self]
theorem beforeS_trans {a b c : En} (h : beforeE a b = true) (k : beforeE b c = true) : beforeE a c = true := by
  simp only [beforeE, Bool.or_eq_true, Bool.and_eq_true, beq_iff_eq, decide_eq_true_eq] at *
  rcases h with h | ⟨h, h'⟩
  · rcases k with k | ⟨k, k'⟩
    · exact .inl (blS_trans _ _ _ h k)
    · rw [← k]; exact .inl h
  · rcases k with k | ⟨k, k'⟩
    · rw [h]; exact .inl k
    · exact .inr ⟨h.trans k, by omega⟩
theorem before_asym {a b : En} (h : beforeE a b = true) : beforeE b a = false := by
  cases k : beforeE b a
  · rfl
  · have := beforeS_trans h k
    rw [beforeS_self] at this
    cases this
/-- Two versions have one Key and Seq. -/
def twin (a b : En) : Bool := (a.key.toList == b.key.toList) && decide (a.seq = b.seq)
theorem before_total {a b : En} (h : beforeE a b = false) (k : beforeE b a = false) : twin a b = true := by
  simp only [beforeE, Bool.or_eq_false_iff, Bool.and_eq_false_iff] at h k
  have e := blS_total _ _ h.1 k.1
  have e2 : (a.key.toList == b.key.toList) = true := by rw [e]; simp
  have e3 : (b.key.toList == a.key.toList) = true := by rw [e]; simp
  rw [e2] at h; rw [e3] at k
  simp at h k
  simp only [twin, e2, Bool.true_and, decide_eq_true_eq]
  omega
theorem twin_before {a b : En} (h : twin a b = true) : beforeE a b = false := by
  simp only [twin, Bool.and_eq_true, beq_iff_eq, decide_eq_true_eq] at h
  simp [beforeE, h.1, h.2, blS_self]
theorem twin_symm {a b : En} (h : twin a b = true) : twin b a = true := by
  simp only [twin, Bool.and_eq_true, beq_iff_eq, decide_eq_true_eq] at *
  exact ⟨h.1.symm, h.2.symm⟩

/-! ### sorted lists of places -/
def eAt (l : List En) (k : Nat) : En := l.getD k default
def Srt (l : List En) (p : List Nat) : Prop := p.Pairwise fun i j => beforeE (eAt l i) (eAt l j) = true
def Ones (l : List En) : Prop := ∀ i j, i < l.length → j < l.length → i ≠ j → twin (eAt l i) (eAt l j) = false

theorem Srt.nodup {l : List En} {p : List Nat} (h : Srt l p) : p.Nodup := by
  refine List.Pairwise.imp ?_ h
  intro a b hab e
  subst e
  rw [beforeS_self] at hab
  cases hab

theorem srt_unique (l : List En) : ∀ (p q : List Nat), Srt l p → Srt l q → (∀ k, k ∈ p ↔ k ∈ q) → p = q
  | [], [], _, _, _ => rfl
  | [], b :: q, _, _, h => absurd ((h b).2 (by simp)) (by simp)
  | a :: p, [], _, _, h => absurd ((h a).1 (by simp)) (by simp)
  | a :: p, b :: q, hp, hq, h => by
    have hp' := List.pairwise_cons.1 hp
    have hq' := List.pairwise_cons.1 hq
    have e : a = b := by
      have ha : a ∈ b :: q := (h a).1 (by simp)
      have hb : b ∈ a :: p := (h b).2 (by simp)
      rcases List.mem_cons.1 ha with r | r
      · exact r
      · rcases List.mem_cons.1 hb with r2 | r2
        · exact r2.symm
        · have := before_asym (hq'.1 a r)
          rw [hp'.1 b r2] at this
          cases this
    subst e
    rw [srt_unique l p q hp'.2 hq'.2 ?_]
    intro k
    have np := List.nodup_cons.1 (Srt.nodup hp)
    have nq := List.nodup_cons.1 (Srt.nodup hq)
    constructor
    · intro hk
      rcases List.mem_cons.1 ((h k).1 (by simp [hk])) with r | r
      · subst r; exact absurd hk np.1
      · exact r
    · intro hk
      rcases List.mem_cons.1 ((h k).2 (by simp [hk])) with r | r
      · subst r; exact absurd hk nq.1
      · exact r

theorem pigeon : ∀ (n : Nat) (p : List Nat), p.Nodup → (∀ k ∈ p, k < n) → n ≤ p.length → ∀ k, k < n → k ∈ p
  | 0, _, _, _, _, k, hk => by omega
  | n + 1, p, hn, hp, hl, k, hk => by
    by_cases h : n ∈ p
    · by_cases e : k = n
      · rw [e]; exact h
      · have h1 := hn.erase n
        have h2 : ∀ j ∈ p.erase n, j < n := by
          intro j hj
          have a1 := (hn.mem_erase_iff.1 hj)
          have a2 := hp j a1.2
          have := a1.1
          omega
        have h3 : n ≤ (p.erase n).length := by rw [List.length_erase_of_mem h]; omega
        exact List.mem_of_mem_erase (pigeon n (p.erase n) h1 h2 h3 k (by omega))
    · exfalso
      cases p with
      | nil => simp at hl
      | cons a q =>
        have hq := List.nodup_cons.1 hn
        have h2 : ∀ j ∈ q, j < n := by
          intro j hj
          have a2 := hp j (by simp [hj])
          have a3 : j ≠ n := by intro e; subst e; exact h (by simp [hj])
          omega
        have ha : a < n := by
          have a2 := hp a (by simp)
          have a3 : a ≠ n := by intro e; subst e; exact h (by simp)
          omega
        exact hq.1 (pigeon n q hq.2 h2 (by simpa using hl) a ha)

theorem posF_take (l : List En) (x : En) (o : List Nat) : ∀ k ∈ o.take (posF l x o), beforeE (eAt l k) x = true := by
  induction o with
  | nil => intro k hk; cases hk
  | cons a o ih =>
    intro k hk
    unfold posF at hk
    rw [List.findIdx_cons] at hk
    by_cases e : beforeE (eAt l a) x = true
    · have e' : beforeE (l.getD a default) x = true := e
      simp only [e', Bool.not_true, cond_false, List.take_succ_cons, List.mem_cons] at hk
      rcases hk with rfl | hk
      · exact e
      · exact ih k hk
    · have e' : beforeE (l.getD a default) x = false := by simpa [eAt] using e
      simp only [e', Bool.not_false, cond_true, List.take_zero] at hk
      cases hk
theorem posF_drop (l : List En) (x : En) (o : List Nat) (hs : Srt l o) : ∀ k ∈ o.drop (posF l x o), beforeE (eAt l k) x = false := by
  induction o with
  | nil => intro k hk; simp at hk
  | cons a o ih =>
    intro k hk
    have hs' := List.pairwise_cons.1 hs
    unfold posF at hk
    rw [List.findIdx_cons] at hk
    by_cases e : beforeE (eAt l a) x = true
    · have e' : beforeE (l.getD a default) x = true := e
      simp only [e', Bool.not_true, cond_false, List.drop_succ_cons] at hk
      exact ih hs'.2 k hk
    · have e' : beforeE (l.getD a default) x = false := by simpa [eAt] using e
      simp only [e', Bool.not_false, cond_true, List.drop_zero, List.mem_cons] at hk
      rcases hk with rfl | hk
      · exact e'
      · cases q : beforeE (eAt l k) x
        · rfl
        · have := beforeS_trans (hs'.1 k hk) q
          exact absurd this e

theorem insF_srt (l : List En) (o : List Nat) (i : Nat) (hs : Srt l o) (hd : ∀ k ∈ o, twin (eAt l k) (eAt l i) = false) : Srt l (insF l o i) := by
  unfold insF
  have hcat : o = o.take (posF l (l.getD i default) o) ++ o.drop (posF l (l.getD i default) o) := (List.take_append_drop _ _).symm
  have hs2 := hs
  unfold Srt at hs2
  rw [hcat, List.pairwise_append] at hs2
  have h1 := posF_take l (l.getD i default) o
  have h2 := posF_drop l (l.getD i default) o hs
  have h3 : ∀ k ∈ o.drop (posF l (l.getD i default) o), beforeE (eAt l i) (eAt l k) = true := by
    intro k hk
    cases q : beforeE (eAt l i) (eAt l k)
    · have : twin (eAt l k) (eAt l i) = true := before_total (h2 k hk) q
      rw [hd k (List.mem_of_mem_drop hk)] at this
      cases this
    · rfl
  unfold Srt
  rw [List.pairwise_append, List.pairwise_append]
  refine ⟨⟨hs2.1, by simp, ?_⟩, hs2.2.1, ?_⟩
  · intro a ha b hb
    simp at hb; subst hb
    exact h1 a ha
  · intro a ha b hb
    rcases List.mem_append.1 ha with q | q
    · exact hs2.2.2 a q b hb
    · simp at q; subst q
      exact h3 b hb

theorem orderF_srt (l : List En) (hd : Ones l) : ∀ n, n ≤ l.length → Srt l (orderF l n)
  | 0, _ => List.Pairwise.nil
  | n + 1, h => by
    refine insF_srt l _ n (orderF_srt l hd n (by omega)) ?_
    intro k hk
    have := orderF_lt l n k hk
    exact hd k n (by omega) (by omega) (by omega)
theorem orderF_mem (l : List En) (hd : Ones l) (k : Nat) : k ∈ orderF l l.length ↔ k < l.length := by
  constructor
  · exact orderF_lt l _ k
  · intro h
    exact pigeon l.length _ (Srt.nodup (orderF_srt l hd _ (Nat.le_refl _))) (orderF_lt l _) (by rw [orderF_len]; exact Nat.le_refl _) k h

theorem eAt_app (l : List En) (x : En) (k : Nat) (h : k < l.length) : eAt (l ++ [x]) k = eAt l k := by
  simp [eAt, List.getD, List.getElem?_append_left h]
theorem eAt_last (l : List En) (x : En) : eAt (l ++ [x]) l.length = x := by simp [eAt, List.getD]
theorem posF_app (l : List En) (x y : En) : ∀ (o : List Nat), (∀ k ∈ o, k < l.length) → posF (l ++ [x]) y o = posF l y o
  | [], _ => rfl
  | a :: o, h => by
    have ha := eAt_app l x a (h a (by simp))
    unfold eAt at ha
    have ih := posF_app l x y o (fun k hk => h k (by simp [hk]))
    unfold posF at ih ⊢
    rw [List.findIdx_cons, List.findIdx_cons, ha, ih]
theorem orderF_app (l : List En) (x : En) : ∀ n, n ≤ l.length → orderF (l ++ [x]) n = orderF l n
  | 0, _ => rfl
  | n + 1, h => by
    have h1 := orderF_app l x n (by omega)
    have h2 := eAt_app l x n (by omega)
    unfold eAt at h2
    simp only [orderF, insF, h1, h2]
    rw [posF_app l x _ _ (fun k hk => by have := orderF_lt l n k hk; omega)]
theorem orderF_snoc (l : List En) (x : En) : orderF (l ++ [x]) (l.length + 1) = (orderF l l.length).take (posF l x (orderF l l.length)) ++ [l.length] ++ (orderF l l.length).drop (posF l x (orderF l l.length)) := by
  have h2 := eAt_last l x
  unfold eAt at h2
  simp only [orderF, insF, orderF_app l x l.length (Nat.le_refl _), h2]
  rw [posF_app l x _ _ (fun k hk => orderF_lt l _ k hk)]
end Go.Proofs.Ytfnddbglopoghaa
