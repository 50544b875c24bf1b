/- What Scan tells of octets (plain lists). -/
import Derived.Test.YtgphkddcfcmaiaaFMath
namespace Go.Proofs.Ytgphkddcfcmaiaa
open Go.RowKit SumPlain
set_option linter.unusedVariables false

/-- The records from the beginning on: kind, data, how many octets. -/
def scanF : Nat → List Int → List (Int × List Int × Nat)
  | 0, _ => []
  | f + 1, b => if (fget b).2.2.2 = 0 then ((fget b).1, (fget b).2.1, (fget b).2.2.1.toNat) :: scanF f (b.drop (fget b).2.2.1.toNat) else []

def scanOf (b : List Int) : List (Int × List Int × Nat) := scanF (b.length + 1) b
def lenOf : List (Int × List Int × Nat) → Nat
  | [] => 0
  | x :: r => x.2.2 + lenOf r

theorem lenOf_append : ∀ (x y : List (Int × List Int × Nat)), lenOf (x ++ y) = lenOf x + lenOf y
  | [], y => by simp [lenOf]
  | a :: r, y => by simp only [List.cons_append, lenOf, lenOf_append r y]; omega

theorem fget_ok (b : List Int) (hx : ∀ x ∈ b, 0 ≤ x ∧ x ≤ 255) (h : (fget b).2.2.2 = 0) :
    ∃ n : Nat, (fget b).2.2.1 = (n : Int) ∧ 6 ≤ n ∧ n ≤ b.length ∧ (0 ≤ (fget b).1 ∧ (fget b).1 ≤ 255) ∧ (∀ x ∈ (fget b).2.1, 0 ≤ x ∧ x ≤ 255) ∧ (fget b).2.1.length ≤ 65536 ∧ n ≤ 65550 := by
  rcases get_says b hx with hg | hg | ⟨n, j, hg, n0, n1, j1, jl, ho, j9⟩
  · rw [fget_err (getRet_inj hg) (by decide)] at h; cases h
  · rw [fget_err (getRet_inj hg) (by decide)] at h; cases h
  · have hG := getRet_inj hg
    by_cases h1 : 65536 < n
    · rw [fget_long hG h1] at h; cases h
    obtain ⟨m, rfl⟩ : ∃ m : Nat, n = (m : Int) := ⟨n.toNat, by omega⟩
    by_cases h2 : b.length < j + 1 + m + 4
    · rw [fget_short hG h1 (by omega)] at h; cases h
    have hm : ((j : Int) + 1 + (m : Int) + 4).toNat = j + 1 + m + 4 := by omega
    obtain ⟨x, f, hb⟩ : ∃ x f, bareOf (b.take (j + 1 + m + 4)) = (x, f) := ⟨_, _, rfl⟩
    by_cases hf : f = 0
    · subst hf
      obtain ⟨h3, h4⟩ := bareOf_good hb
      rw [List.length_take] at h3
      have hxo : ∀ y ∈ x, 0 ≤ y ∧ y ≤ 255 := by
        intro y hy
        rw [h4] at hy
        exact hx y (List.mem_of_mem_take (List.mem_of_mem_take hy))
      rw [fget_good hG h1 (by omega) hm hb]
      refine ⟨j + 1 + m + 4, by simp, by omega, by omega, hxo _ (by simp only [List.getD, List.getElem?_eq_getElem (show j < x.length by omega)]; exact List.getElem_mem _), fun y hy => hxo y (List.mem_of_mem_drop hy), ?_, by omega⟩
      show (x.drop (j + 1)).length ≤ 65536
      rw [List.length_drop]
      omega
    · rw [fget_bad hG h1 (by omega) hm hb hf] at h; exact absurd h hf

theorem scanF_len : ∀ (f : Nat) (b : List Int), (∀ x ∈ b, 0 ≤ x ∧ x ≤ 255) → lenOf (scanF f b) ≤ b.length ∧ 6 * (scanF f b).length ≤ b.length
  | 0, b, _ => by simp [scanF, lenOf]
  | f + 1, b, hx => by
    unfold scanF
    split
    · rename_i h
      obtain ⟨n, hn, h6, hl, _⟩ := fget_ok b hx h
      have ih := scanF_len f (b.drop n) (fun x hx' => hx x (List.mem_of_mem_drop hx'))
      rw [List.length_drop] at ih
      rw [hn]
      simp only [lenOf, List.length_cons, Int.toNat_natCast]
      omega
    · simp [lenOf]

/-- Behind so many records the rest is scanned alike. -/
def ScanAt (b : List Int) (pre : List (Int × List Int × Nat)) (off f : Nat) : Prop :=
  scanOf b = pre ++ scanF f (b.drop off) ∧ lenOf pre = off ∧ off ≤ b.length ∧ b.length - off < f

theorem ScanAt.start (b : List Int) : ScanAt b [] 0 (b.length + 1) := ⟨by simp [scanOf], rfl, Nat.zero_le _, by omega⟩

theorem ScanAt.ends {b : List Int} {pre : List (Int × List Int × Nat)} {off f : Nat} (h : ScanAt b pre off f) (he : ¬ (fget (b.drop off)).2.2.2 = 0) : scanOf b = pre ∧ lenOf (scanOf b) = off := by
  obtain ⟨h1, h2, h3, h4⟩ := h
  obtain ⟨f', rfl⟩ : ∃ f', f = f' + 1 := ⟨f - 1, by omega⟩
  unfold scanF at h1
  rw [if_neg he, List.append_nil] at h1
  exact ⟨h1, by rw [h1]; exact h2⟩

theorem ScanAt.goes {b : List Int} (hx : ∀ x ∈ b, 0 ≤ x ∧ x ≤ 255) {pre : List (Int × List Int × Nat)} {off f n : Nat} (h : ScanAt b pre off f) (he : (fget (b.drop off)).2.2.2 = 0) (hn : (fget (b.drop off)).2.2.1 = (n : Int)) :
    ScanAt b (pre ++ [((fget (b.drop off)).1, (fget (b.drop off)).2.1, n)]) (off + n) (f - 1) ∧ 6 ≤ n ∧ off + n ≤ b.length := by
  obtain ⟨h1, h2, h3, h4⟩ := h
  obtain ⟨f', rfl⟩ : ∃ f', f = f' + 1 := ⟨f - 1, by omega⟩
  obtain ⟨n', hn', h6, hl, _⟩ := fget_ok (b.drop off) (fun x hx' => hx x (List.mem_of_mem_drop hx')) he
  rw [List.length_drop] at hl
  have : n' = n := by rw [hn] at hn'; omega
  subst this
  unfold scanF at h1
  rw [if_pos he, hn] at h1
  refine ⟨⟨?_, ?_, by omega, by omega⟩, h6, by omega⟩
  · rw [h1]
    simp [List.drop_drop]
  · rw [lenOf_append, h2]
    simp [lenOf]
end Go.Proofs.Ytgphkddcfcmaiaa
