/- The order of octets is the order of parts; a list that begins another one has the beginning of its octets: plain lists. -/
import Derived.Test.YtjnbjooagdgfpaaBackMath
import Derived.Test.YtjnbjooagdgfpaaCompare
namespace Go.Proofs.Ytjnbjooagdgfpaa
open Go.RowKit
set_option linter.unusedVariables false

theorem acc_cons (s x : Int) (r : List Int) : acc s (x :: r) = acc (s * 256 + x) r := rfl

theorem acc_lt : ∀ (r1 r2 : List Int) (s t : Int), r1.length = r2.length → (∀ x ∈ r1, 0 ≤ x ∧ x ≤ 255) → (∀ x ∈ r2, 0 ≤ x ∧ x ≤ 255) → s < t → acc s r1 < acc t r2
  | [], [], s, t, _, _, _, h => h
  | [], _ :: _, _, _, hl, _, _, _ => by simp at hl
  | _ :: _, [], _, _, hl, _, _, _ => by simp at hl
  | x :: r1, y :: r2, s, t, hl, h1, h2, h => by
    have hx := h1 x (by simp)
    have hy := h2 y (by simp)
    rw [acc_cons, acc_cons]
    exact acc_lt r1 r2 _ _ (by simpa using hl) (fun z hz => h1 z (by simp [hz])) (fun z hz => h2 z (by simp [hz])) (by omega)

theorem acc_less : ∀ (l1 l2 : List Int) (s : Int) (r q : List Int), l1.length = l2.length → (∀ x ∈ l1, 0 ≤ x ∧ x ≤ 255) → (∀ x ∈ l2, 0 ≤ x ∧ x ≤ 255) → acc s l1 < acc s l2 → lessL (l1 ++ r) (l2 ++ q) = true
  | [], [], s, r, q, _, _, _, h => by simp [acc] at h
  | [], _ :: _, s, r, q, hl, _, _, _ => by simp at hl
  | _ :: _, [], s, r, q, hl, _, _, _ => by simp at hl
  | x :: r1, y :: r2, s, r, q, hl, h1, h2, h => by
    rw [acc_cons, acc_cons] at h
    have hl' : r1.length = r2.length := by simpa using hl
    have g1 : ∀ z ∈ r1, 0 ≤ z ∧ z ≤ 255 := fun z hz => h1 z (by simp [hz])
    have g2 : ∀ z ∈ r2, 0 ≤ z ∧ z ≤ 255 := fun z hz => h2 z (by simp [hz])
    rw [List.cons_append, List.cons_append]
    rcases Int.lt_trichotomy x y with c | c | c
    · exact lessL_head x y c _ _
    · subst c
      rw [lessL_same]
      exact acc_less r1 r2 _ r q hl' g1 g2 h
    · have := acc_lt r2 r1 (s * 256 + y) (s * 256 + x) hl'.symm g2 g1 (by omega)
      omega

theorem lessL_asym : ∀ (l1 l2 : List Int), lessL l1 l2 = true → lessL l2 l1 = false
  | [], [], h => by simp [lessL] at h
  | [], _ :: _, _ => rfl
  | _ :: _, [], h => by simp [lessL] at h
  | x :: r, y :: q, h => by
    rcases Int.lt_trichotomy x y with c | c | c
    · exact lessL_not y x c _ _
    · subst c
      rw [lessL_same] at h ⊢
      exact lessL_asym r q h
    · rw [lessL_not x y c] at h
      cases h

theorem lessL_total : ∀ (l1 l2 : List Int), lessL l1 l2 = false → ¬ l1 = l2 → lessL l2 l1 = true
  | [], [], _, h => absurd rfl h
  | [], _ :: _, h, _ => by simp [lessL] at h
  | _ :: _, [], _, _ => rfl
  | x :: r, y :: q, h, hn => by
    rcases Int.lt_trichotomy x y with c | c | c
    · rw [lessL_head x y c] at h
      cases h
    · subst c
      rw [lessL_same] at h ⊢
      exact lessL_total r q h (fun e => hn (by rw [e]))
    · exact lessL_head y x c _ _

theorem esc_less : ∀ (s t r q : List Int), (∀ x ∈ s, 0 ≤ x ∧ x ≤ 255) → (∀ x ∈ t, 0 ≤ x ∧ x ≤ 255) → lessL s t = true → lessL (esc s ++ 0 :: 1 :: r) (esc t ++ 0 :: 1 :: q) = true
  | s, [], r, q, _, _, h => by cases s <;> simp [lessL] at h
  | [], y :: t, r, q, _, ht, _ => by
    have hy := ht y (by simp)
    by_cases c : y = 0
    · subst c
      simp [esc, lessL]
    · have : (0 : Int) < y := by omega
      simp [esc, c, lessL, this]
  | x :: s, y :: t, r, q, hs, ht, h => by
    have hx := hs x (by simp)
    have hy := ht y (by simp)
    rcases Int.lt_trichotomy x y with c | c | c
    · have hy0 : ¬ y = 0 := by omega
      have e1 : esc (y :: t) = y :: esc t := by simp [esc, hy0]
      rw [e1, List.cons_append]
      by_cases d : x = 0
      · subst d
        have e2 : esc (0 :: s) = 0 :: 255 :: esc s := by simp [esc]
        rw [e2, List.cons_append]
        exact lessL_head _ _ c _ _
      · have e2 : esc (x :: s) = x :: esc s := by simp [esc, d]
        rw [e2, List.cons_append]
        exact lessL_head _ _ c _ _
    · subst c
      rw [lessL_same] at h
      have ih := esc_less s t r q (fun z hz => hs z (by simp [hz])) (fun z hz => ht z (by simp [hz])) h
      by_cases d : x = 0
      · subst d
        have e2 : ∀ u, esc (0 :: u) = 0 :: 255 :: esc u := fun u => by simp [esc]
        rw [e2, e2]
        simp only [List.cons_append]
        rw [lessL_same, lessL_same]
        exact ih
      · have e2 : ∀ u, esc (x :: u) = x :: esc u := fun u => by simp [esc, d]
        rw [e2, e2]
        simp only [List.cons_append]
        rw [lessL_same]
        exact ih
    · rw [lessL_not x y c] at h
      cases h

theorem encP_less (p q : Bool × Int × List Int) (hp : Pwf p) (hq : Pwf q) (h : cmpP p q < 0) (r r' : List Int) : lessL (encP p ++ r) (encP q ++ r') = true := by
  obtain ⟨pb, pn, pt⟩ := p
  obtain ⟨qb, qn, qt⟩ := q
  obtain ⟨⟨p0, p1⟩, po, _⟩ := hp
  obtain ⟨⟨q0, q1⟩, qo, _⟩ := hq
  simp only at p0 p1 po q0 q1 qo
  cases pb <;> cases qb
  · have hc : lessL pt qt = true := by
      have e : cmpP (false, pn, pt) (false, qn, qt) = cmpT pt qt := rfl
      rw [e] at h
      unfold cmpT at h
      by_cases c : lessL pt qt = true
      · exact c
      · rw [if_neg c] at h
        split at h <;> omega
    have e1 : encP (false, pn, pt) ++ r = 34 :: (esc pt ++ 0 :: 1 :: r) := by
      have : encP (false, pn, pt) = 34 :: (esc pt ++ [0, 1]) := rfl
      rw [this]
      simp
    have e2 : encP (false, qn, qt) ++ r' = 34 :: (esc qt ++ 0 :: 1 :: r') := by
      have : encP (false, qn, qt) = 34 :: (esc qt ++ [0, 1]) := rfl
      rw [this]
      simp
    rw [e1, e2, lessL_same]
    exact esc_less pt qt r r' po qo hc
  · have e : cmpP (false, pn, pt) (true, qn, qt) = 1 := rfl
    rw [e] at h
    omega
  · exact lessL_head 17 34 (by decide) _ _
  · have hc : pn < qn := by
      have e : cmpP (true, pn, pt) (true, qn, qt) = cmpI pn qn := rfl
      rw [e] at h
      unfold cmpI at h
      by_cases c : pn < qn
      · exact c
      · rw [if_neg c] at h
        split at h <;> omega
    have e1 : encP (true, pn, pt) ++ r = 17 :: (num8 (pn + 9223372036854775808) ++ r) := rfl
    have e2 : encP (true, qn, qt) ++ r' = 17 :: (num8 (qn + 9223372036854775808) ++ r') := rfl
    rw [e1, e2, lessL_same]
    refine acc_less _ _ 0 r r' rfl (num8_octet _) (num8_octet _) ?_
    rw [acc_num8 _ (by omega) (by omega), acc_num8 _ (by omega) (by omega)]
    omega

theorem cmpP_zero (p q : Bool × Int × List Int) (kp : okP p = true) (kq : okP q = true) (h : cmpP p q = 0) : p = q := by
  obtain ⟨pb, pn, pt⟩ := p
  obtain ⟨qb, qn, qt⟩ := q
  cases pb <;> cases qb
  · have e : cmpP (false, pn, pt) (false, qn, qt) = cmpT pt qt := rfl
    rw [e] at h
    unfold cmpT at h
    obtain rfl : pn = 0 := by simpa [okP] using kp
    obtain rfl : qn = 0 := by simpa [okP] using kq
    split at h
    · omega
    · split at h
      · rename_i _ e
        rw [e]
      · omega
  · have e : cmpP (false, pn, pt) (true, qn, qt) = 1 := rfl
    rw [e] at h
    omega
  · have e : cmpP (true, pn, pt) (false, qn, qt) = -1 := rfl
    rw [e] at h
    omega
  · have e : cmpP (true, pn, pt) (true, qn, qt) = cmpI pn qn := rfl
    rw [e] at h
    unfold cmpI at h
    obtain rfl : pt = [] := by simpa [okP] using kp
    obtain rfl : qt = [] := by simpa [okP] using kq
    split at h
    · omega
    · split at h
      · omega
      · have : pn = qn := by omega
        rw [this]

theorem cmpP_flip (p q : Bool × Int × List Int) (h : 0 < cmpP p q) : cmpP q p < 0 := by
  obtain ⟨pb, pn, pt⟩ := p
  obtain ⟨qb, qn, qt⟩ := q
  cases pb <;> cases qb
  · have e : cmpP (false, pn, pt) (false, qn, qt) = cmpT pt qt := rfl
    have e2 : cmpP (false, qn, qt) (false, pn, pt) = cmpT qt pt := rfl
    rw [e] at h
    rw [e2]
    unfold cmpT at h ⊢
    by_cases c : lessL pt qt = true
    · rw [if_pos c] at h
      omega
    · rw [if_neg c] at h
      by_cases d : pt = qt
      · rw [if_pos d] at h
        omega
      · rw [if_pos (lessL_total pt qt (by simpa using c) d)]
        omega
  · have e2 : cmpP (true, qn, qt) (false, pn, pt) = -1 := rfl
    rw [e2]
    omega
  · have e : cmpP (true, pn, pt) (false, qn, qt) = -1 := rfl
    rw [e] at h
    omega
  · have e : cmpP (true, pn, pt) (true, qn, qt) = cmpI pn qn := rfl
    have e2 : cmpP (true, qn, qt) (true, pn, pt) = cmpI qn pn := rfl
    rw [e] at h
    rw [e2]
    unfold cmpI at h ⊢
    split at h
    · omega
    · split at h
      · rename_i _ c
        rw [if_pos c]
        omega
      · omega

/-- The order of octets is the order of parts. -/
theorem enc_order : ∀ (a b : List (Bool × Int × List Int)), (∀ p ∈ a, Pwf p ∧ okP p = true) → (∀ p ∈ b, Pwf p ∧ okP p = true) → lessL (encL a) (encL b) = decide (cmpLs a b < 0) ∧ (encL a = encL b ↔ cmpLs a b = 0)
  | [], [], _, _ => by simp [encL, lessL, cmpLs]
  | [], q :: b, _, _ => by
    obtain ⟨y, r, e⟩ := encP_head q
    rw [encL_cons, e]
    simp [encL, lessL, cmpLs]
  | p :: a, [], _, _ => by
    obtain ⟨y, r, e⟩ := encP_head p
    rw [encL_cons, e]
    simp [encL, lessL, cmpLs]
  | p :: a, q :: b, ha, hb => by
    obtain ⟨hp, kp⟩ := ha p (by simp)
    obtain ⟨hq, kq⟩ := hb q (by simp)
    have ih := enc_order a b (fun x hx => ha x (by simp [hx])) (fun x hx => hb x (by simp [hx]))
    rw [encL_cons, encL_cons]
    have e : cmpLs (p :: a) (q :: b) = if cmpP p q = 0 then cmpLs a b else cmpP p q := rfl
    rw [e]
    rcases Int.lt_trichotomy (cmpP p q) 0 with c | c | c
    · have hl := encP_less p q hp hq c (encL a) (encL b)
      rw [if_neg (by omega), hl]
      refine ⟨by simp [c], ⟨fun e => ?_, fun h => by omega⟩⟩
      rw [e, lessL_self] at hl
      cases hl
    · rw [if_pos c]
      have := cmpP_zero p q kp kq c
      subst this
      rw [lessL_pre]
      refine ⟨ih.1, ?_⟩
      rw [List.append_cancel_left_eq]
      exact ih.2
    · have hl := encP_less q p hq hp (cmpP_flip p q c) (encL b) (encL a)
      rw [if_neg (by omega), lessL_asym _ _ hl]
      refine ⟨by simp; omega, ⟨fun e => ?_, fun h => by omega⟩⟩
      rw [e, lessL_self] at hl
      cases hl

theorem encL_take (a : List (Bool × Int × List Int)) (k : Nat) : encL a = encL (a.take k) ++ encL (a.drop k) := by
  unfold encL
  rw [← List.flatMap_append, List.take_append_drop]

theorem check_take (a : List (Bool × Int × List Int)) (k : Nat) (h : checkOf a = 0) : checkOf (a.take k) = 0 := by
  obtain ⟨h8, hk⟩ := check_eight h
  unfold checkOf
  have := List.length_take_le k a
  rw [List.length_take]
  rw [if_neg (by omega), if_pos]
  exact List.all_eq_true.2 fun p hp => List.all_eq_true.1 hk p (List.mem_of_mem_take hp)

theorem Parts.cut {w : World} {a : Option Addr} {n cap : Nat} {l : List (Bool × Int × List Int)} (h : Parts w (.slice a n cap) l) (k : Nat) (hk : k ≤ l.length) : Parts w (.slice a k cap) (l.take k) := by
  obtain ⟨hx, a', cap', e, h1, h2, h3⟩ := h
  simp at e
  obtain ⟨rfl, _, rfl⟩ := e
  have hlen : (l.take k).length = k := by rw [List.length_take]; omega
  refine ⟨fun p hp => hx p (List.mem_of_mem_take hp), a, cap, by rw [hlen], by omega, h2, fun hl => ?_⟩
  obtain ⟨b, off, rfl, hc⟩ := h3 (by intro e; rw [e] at hl; simp at hl)
  refine ⟨b, off, rfl, fun j p hj => hc j p ?_⟩
  rw [List.getElem?_take] at hj
  split at hj
  · exact hj
  · cases hj
end Go.Proofs.Ytjnbjooagdgfpaa
