/- What follows of places alone: a key that was put in is in; more bits take nothing away; the order of the keys does not matter; an empty filter has no place set. -/
import Derived.Test.YtbhlphhgibikeaaBDec
namespace Go.Proofs.Ytbhlphhgibikeaa
open Go.RowKit
set_option linter.unusedVariables false
set_option linter.unusedSimpArgs false

theorem and_or_zero (x y b : Nat) (h : ¬ (x &&& b) = 0) : ¬ ((x ||| y) &&& b) = 0 := by
  intro e
  refine h ?_
  rw [Nat.and_or_distrib_right] at e
  exact (Nat.or_eq_zero_iff.1 e).1
theorem or_self_bit (x b : Nat) (hb : b ≠ 0) : ¬ ((x ||| b) &&& b) = 0 := by
  rw [Nat.and_or_distrib_right, Nat.and_self]
  intro e
  exact hb (Nat.or_eq_zero_iff.1 e).2

theorem bit_pos (p : Nat) : bitN p ≠ 0 := by
  unfold bitN
  have : 0 < 2 ^ (p % 8) := Nat.pow_pos (by decide)
  omega

theorem setB_iff (l : List Int) (p : Nat) : setB l p = true ↔ ¬ ((l.getD (p / 8) 0).toNat &&& bitN p) = 0 := by
  unfold setB
  simp

theorem putL_get (l : List Int) (p o : Nat) (ho : o < l.length) : ((putL l p).getD o 0).toNat = if o = p / 8 then (l.getD o 0).toNat ||| bitN p else (l.getD o 0).toNat := by
  unfold putL
  by_cases h : o = p / 8
  · subst h
    rw [if_pos rfl]
    simp [List.getD, ho]
  · rw [if_neg h]
    have h' : ¬ p / 8 = o := fun e => h e.symm
    simp [List.getD, List.getElem?_set, h']

theorem setB_mono {l : List Int} {p q : Nat} (hq : q / 8 < l.length) (h : setB l q = true) : setB (putL l p) q = true := by
  rw [setB_iff] at h ⊢
  rw [putL_get l p _ hq]
  split
  · exact and_or_zero _ _ _ h
  · exact h
theorem setB_self {l : List Int} {p : Nat} (hp : p / 8 < l.length) : setB (putL l p) p = true := by
  rw [setB_iff, putL_get l p _ hp, if_pos rfl]
  exact or_self_bit _ _ (bit_pos p)

theorem setB_putI {h : Int} {n : Nat} {q : Nat} (hq : q / 8 < n) : ∀ (i : Nat) (l : List Int), l.length = n → setB l q = true → setB (putI h n i l) q = true
  | 0, l, _, hs => hs
  | i + 1, l, hl, hs => by
    rw [putI_succ]
    exact setB_mono (by rw [putI_len, hl]; exact hq) (setB_putI hq i l hl hs)
theorem setB_putI_self {h : Int} {n : Nat} (hn : 1 ≤ n) : ∀ (i : Nat) (l : List Int), l.length = n → ∀ j, j < i → setB (putI h n i l) (plc h j n) = true
  | 0, l, _, j, hj => absurd hj (by omega)
  | i + 1, l, hl, j, hj => by
    rw [putI_succ]
    by_cases e : j = i
    · subst e
      exact setB_self (by rw [putI_len, hl]; exact plc_lt hn)
    · exact setB_mono (by rw [putI_len, hl]; exact plc_lt hn) (setB_putI_self hn i l hl j (by omega))

theorem setB_fold {K n q : Nat} (hq : q / 8 < n) : ∀ (keys : List (List Int)) (l : List Int), l.length = n → setB l q = true → setB (keys.foldl (fun l key => putI (hashL key) n K l) l) q = true
  | [], l, _, h => h
  | k :: r, l, hl, h => setB_fold hq r _ (by rw [putI_len, hl]) (setB_putI hq K l hl h)
theorem setB_fold_mem {K n : Nat} (hn : 1 ≤ n) (key : List Int) (j : Nat) (hj : j < K) : ∀ (keys : List (List Int)) (l : List Int), l.length = n → key ∈ keys → setB (keys.foldl (fun l key => putI (hashL key) n K l) l) (plc (hashL key) j n) = true
  | [], l, _, h => by cases h
  | k :: r, l, hl, h => by
    rcases List.mem_cons.1 h with rfl | h
    · exact setB_fold (plc_lt hn) r _ (by rw [putI_len, hl]) (setB_putI_self hn K l hl j hj)
    · exact setB_fold_mem hn key j hj r _ (by rw [putI_len, hl]) h

/-- A key that was put in is in. -/
theorem make_has {keys : List (List Int)} {K n : Nat} (hn : 1 ≤ n) {key : List Int} (hk : key ∈ keys) : hasF (hashL key) K n (makeL keys K n) = true :=
  hasF_true fun j hj => setB_fold_mem hn key j hj keys _ (by simp) hk

/-- More bits: octet by octet, as far as there are such. -/
def orL : List Int → List Int → List Int
  | [], _ => []
  | l, [] => l
  | x :: l, b :: r => ((x.toNat ||| b.toNat : Nat) : Int) :: orL l r

theorem orL_len : ∀ (l r : List Int), (orL l r).length = l.length
  | [], _ => by unfold orL; rfl
  | x :: l, [] => by unfold orL; rfl
  | x :: l, b :: r => by unfold orL; simp [orL_len l r]
theorem orL_get : ∀ (l r : List Int) (o b : Nat), ¬ ((l.getD o 0).toNat &&& b) = 0 → ¬ (((orL l r).getD o 0).toNat &&& b) = 0
  | [], r, o, b, h => by unfold orL; exact h
  | x :: l, [], o, b, h => by unfold orL; exact h
  | x :: l, y :: r, 0, b, h => by
    unfold orL
    simp only [List.getD_cons_zero] at h ⊢
    rw [Int.toNat_natCast]
    exact and_or_zero _ _ _ h
  | x :: l, y :: r, o + 1, b, h => by
    unfold orL
    simp only [List.getD_cons_succ] at h ⊢
    exact orL_get l r o b h
theorem has_orL {h : Int} {K n : Nat} {l r : List Int} (hs : hasF h K n l = true) : hasF h K n (orL l r) = true := by
  unfold hasF at *
  rw [List.all_eq_true] at *
  intro i hi
  have := hs i hi
  rw [setB_iff] at *
  exact orL_get _ _ _ _ this

/-- The order in which places are set does not matter. -/
theorem putL_comm (l : List Int) (p q : Nat) : putL (putL l p) q = putL (putL l q) p := by
  apply List.ext_getElem?
  intro o
  by_cases ho : o < l.length
  · have e1 : ∀ a b, (putL (putL l a) b)[o]? = some ((putL (putL l a) b).getD o 0) := fun a b => by simp [List.getD, putL_len, ho]
    rw [e1, e1]
    by_cases h1 : o = p / 8
    · by_cases h2 : o = q / 8
      · unfold putL
        rw [← h1, ← h2]
        simp [List.getD, ho]
        rw [Nat.or_assoc, Nat.or_assoc, Nat.or_comm (bitN p)]
      · have h2' : ¬ q / 8 = o := fun e => h2 e.symm
        have hpq : ¬ q / 8 = p / 8 := fun e => h2 (by omega)
        have hqp : ¬ p / 8 = q / 8 := fun e => h2 (by omega)
        unfold putL
        simp [List.getD, List.getElem?_set, h2', hpq, hqp, h1]
    · have h1' : ¬ p / 8 = o := fun e => h1 e.symm
      by_cases h2 : o = q / 8
      · have hpq : ¬ q / 8 = p / 8 := fun e => h1 (by omega)
        have hqp : ¬ p / 8 = q / 8 := fun e => h1 (by omega)
        unfold putL
        simp [List.getD, List.getElem?_set, h1', hpq, hqp, h2]
      · have h2' : ¬ q / 8 = o := fun e => h2 e.symm
        unfold putL
        simp [List.getD, List.getElem?_set, h1', h2']
  · rw [List.getElem?_eq_none (by simp [putL_len]; omega), List.getElem?_eq_none (by simp [putL_len]; omega)]

theorem putI_putL (h : Int) (n q : Nat) : ∀ (i : Nat) (l : List Int), putI h n i (putL l q) = putL (putI h n i l) q
  | 0, l => rfl
  | i + 1, l => by rw [putI_succ, putI_succ, putI_putL h n q i l, putL_comm]
theorem putI_comm (h g : Int) (n K : Nat) : ∀ (i : Nat) (l : List Int), putI h n K (putI g n i l) = putI g n i (putI h n K l)
  | 0, l => rfl
  | i + 1, l => by rw [putI_succ, putI_succ, putI_putL, putI_comm h g n K i l]

theorem fold_put (h : Int) (K n : Nat) : ∀ (keys : List (List Int)) (l : List Int), keys.foldl (fun l key => putI (hashL key) n K l) (putI h n K l) = putI h n K (keys.foldl (fun l key => putI (hashL key) n K l) l)
  | [], l => rfl
  | k :: r, l => by
    simp only [List.foldl_cons]
    rw [putI_comm, fold_put h K n r]
theorem fold_rev (K n : Nat) : ∀ (keys : List (List Int)) (l : List Int), keys.reverse.foldl (fun l key => putI (hashL key) n K l) l = keys.foldl (fun l key => putI (hashL key) n K l) l
  | [], l => rfl
  | k :: r, l => by
    rw [List.reverse_cons, List.foldl_append, fold_rev K n r, List.foldl_cons, List.foldl_nil, List.foldl_cons, fold_put]
theorem make_rev (keys : List (List Int)) (each : Int) : makeR keys.reverse each = makeR keys each := by
  unfold makeR makeL
  rw [List.length_reverse, fold_rev]

/-- No place of an empty filter is set. -/
theorem empty_has (h : Int) (K n : Nat) (hK : 1 ≤ K) (hn : 1 ≤ n) : hasF h K n (makeL [] K n) = false := by
  refine hasF_false (j := 0) (by omega) ?_
  have hz : (List.replicate n (0 : Int)).getD (plc h 0 n / 8) 0 = 0 := by
    have hlt := plc_lt (h := h) (i := 0) hn
    simp [List.getD, hlt]
  unfold setB makeL
  rw [List.foldl_nil, hz]
  simp

/-- What Make answers may be, and has its keys. -/
theorem make_may {keys : List (List Int)} {each : Int} (he : errM each keys.length = 0) : mayB (makeR keys each).1 (makeR keys each).2.length = true ∧ ∀ key ∈ keys, hasF (hashL key) (makeR keys each).1.toNat (makeR keys each).2.length (makeR keys each).2 = true := by
  have h : each ≥ 1 ∧ each ≤ 16 ∧ keys.length ≤ 4096 := by
    unfold errM at he
    split at he
    · simp at he
    · split at he
      · simp at he
      · omega
  obtain ⟨n1, n2⟩ := nOf_le h.2.2 (show each.toNat ≤ 16 by omega)
  obtain ⟨k1, k2⟩ := kOf_le each.toNat
  have e : makeR keys each = (((kOf each.toNat : Nat) : Int), makeL keys (kOf each.toNat) (nOf keys.length each.toNat)) := by unfold makeR; rw [if_pos he]
  rw [e]
  simp only [makeL_len, Int.toNat_natCast]
  refine ⟨?_, fun key hk => make_has n1 hk⟩
  unfold mayB
  simp
  omega

/-- Octets and back. -/
theorem dec_enc {k : Int} {l : List Int} (h : mayB k l.length = true) (hl : OctL l) : decF (encL k l) = (k, l, 0) := by
  obtain ⟨k1, k2, n1, n2⟩ := may_le h
  unfold encL
  rw [if_pos h]
  unfold decF
  rw [if_neg (by simp; omega)]
  simp [h]
theorem enc_dec {l : List Int} (h : (decF l).2.2 = 0) : mayB (decF l).1 (decF l).2.1.length = true ∧ encL (decF l).1 (decF l).2.1 = l := by
  unfold decF at *
  split at h
  · simp at h
  · rename_i h2
    split at h
    · rename_i h3
      rw [if_neg h2, if_pos h3]
      simp only [List.length_drop]
      refine ⟨h3, ?_⟩
      unfold encL
      rw [List.length_drop, if_pos h3]
      cases l with
      | nil => simp at h2
      | cons x r => rfl
    · simp at h
end Go.Proofs.Ytbhlphhgibikeaa
