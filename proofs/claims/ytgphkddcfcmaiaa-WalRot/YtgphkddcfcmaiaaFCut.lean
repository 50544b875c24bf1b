/- Records put one behind the other are scanned, all of them; cut off anywhere, just those that lie whole ahead of the cut (plain lists). -/
import Derived.Test.YtgphkddcfcmaiaaFScanM
namespace Go.Proofs.Ytgphkddcfcmaiaa
open Go.RowKit SumPlain
set_option linter.unusedVariables false

/-- A record that may be: kind, data. -/
def OkRec (g : Int × List Int) : Prop := (0 ≤ g.1 ∧ g.1 ≤ 255) ∧ g.2.length ≤ 65536 ∧ ∀ x ∈ g.2, 0 ≤ x ∧ x ≤ 255

/-- One behind the other. -/
def catF : List (Int × List Int) → List Int
  | [] => []
  | g :: r => frameOf g.1 g.2 ++ catF r

def trip (g : Int × List Int) : Int × List Int × Nat := (g.1, g.2, (frameOf g.1 g.2).length)

/-- How many lie whole ahead of the cut. -/
def cntF : List (Int × List Int) → Nat → Nat
  | [], _ => 0
  | g :: r, m => if (frameOf g.1 g.2).length ≤ m then 1 + cntF r (m - (frameOf g.1 g.2).length) else 0

theorem catF_append : ∀ (a b : List (Int × List Int)), catF (a ++ b) = catF a ++ catF b
  | [], b => rfl
  | g :: r, b => by simp only [List.cons_append, catF, catF_append r b, List.append_assoc]

theorem lenOf_trip : ∀ (gs : List (Int × List Int)), lenOf (gs.map trip) = (catF gs).length
  | [] => rfl
  | g :: r => by simp only [List.map_cons, lenOf, catF, List.length_append, lenOf_trip r, trip]

theorem fget_cut (k : Int) (l : List Int) (hl : l.length ≤ 65536) (j : Nat) (hj : j < (frameOf k l).length) : (fget ((frameOf k l).take j)).2.2.2 ≠ 0 := by
  have hF := frame_len k l
  by_cases h : j < (octets (l.length : Int)).length
  · have e : (frameOf k l).take j = (octets (l.length : Int)).take j := by
      unfold frameOf guardOf
      rw [List.append_assoc, List.take_append_of_le_length (by omega)]
    have hg := getOf_cut (l.length : Int) (by omega) (by omega) j h
    rw [e, fget_err (getRet_inj hg) (by decide)]
    decide
  · have e : ∃ more, (frameOf k l).take j = octets (l.length : Int) ++ more := by
      refine ⟨((frameOf k l).take j).drop (octets (l.length : Int)).length, ?_⟩
      have h1 : ((frameOf k l).take j).take (octets (l.length : Int)).length = octets (l.length : Int) := by
        rw [List.take_take, Nat.min_eq_left (by omega)]
        unfold frameOf guardOf
        rw [List.append_assoc, List.take_left]
      rw [← h1, List.length_take, Nat.min_eq_left (by rw [List.length_take]; omega), List.take_append_drop]
    obtain ⟨more, e⟩ := e
    have hg := getOf_back (l.length : Int) (by omega) (by omega) more
    rw [← e] at hg
    have hG := getRet_inj hg
    rw [← (octets_form (l.length : Int) (by omega) (by omega)).size] at hG
    rw [fget_short hG (by omega) (by rw [List.length_take]; omega)]
    decide

theorem fget_none : (fget []).2.2.2 ≠ 0 := by decide +kernel

theorem scanF_cut : ∀ (gs : List (Int × List Int)) (m f : Nat), (∀ g ∈ gs, OkRec g) → m ≤ (catF gs).length → m < f → scanF f ((catF gs).take m) = (gs.take (cntF gs m)).map trip
  | [], m, f, _, hm, hf => by
    obtain ⟨f', rfl⟩ : ∃ f', f = f' + 1 := ⟨f - 1, by omega⟩
    simp only [catF, List.take_nil, cntF, List.map_nil]
    unfold scanF
    rw [if_neg fget_none]
  | g :: r, m, f, hok, hm, hf => by
    obtain ⟨f', rfl⟩ : ∃ f', f = f' + 1 := ⟨f - 1, by omega⟩
    obtain ⟨hk, hl, hx⟩ := hok g (by simp)
    have hF := frame_len g.1 g.2
    simp only [catF, List.length_append] at hm
    simp only [catF, cntF]
    by_cases h : (frameOf g.1 g.2).length ≤ m
    · rw [if_pos h, List.take_append, List.take_of_length_le h]
      have hb := fget_back g.1 g.2 ((catF r).take (m - (frameOf g.1 g.2).length)) hl
      unfold scanF
      rw [hb]
      simp only [if_true]
      have ih := scanF_cut r (m - (frameOf g.1 g.2).length) f' (fun q hq => hok q (by simp [hq])) (by omega) (by omega)
      rw [Int.toNat_natCast, List.drop_left, ih, Nat.add_comm 1, List.take_succ_cons, List.map_cons]
      rfl
    · rw [if_neg h, List.take_append_of_le_length (by omega)]
      unfold scanF
      rw [if_neg (fget_cut g.1 g.2 hl m (by omega))]
      rfl

theorem cntF_all : ∀ (gs : List (Int × List Int)), cntF gs (catF gs).length = gs.length
  | [] => rfl
  | g :: r => by
    simp only [cntF, catF, List.length_append, List.length_cons]
    rw [if_pos (by omega), Nat.add_sub_cancel_left, cntF_all r, Nat.add_comm]

theorem scanOf_cut (gs : List (Int × List Int)) (hok : ∀ g ∈ gs, OkRec g) (m : Nat) (hm : m ≤ (catF gs).length) : scanOf ((catF gs).take m) = (gs.take (cntF gs m)).map trip := by
  unfold scanOf
  refine scanF_cut gs m _ hok hm ?_
  rw [List.length_take]
  omega

theorem scanOf_all (gs : List (Int × List Int)) (hok : ∀ g ∈ gs, OkRec g) : scanOf (catF gs) = gs.map trip := by
  have := scanOf_cut gs hok _ (Nat.le_refl _)
  rw [List.take_length, cntF_all, List.take_length] at this
  exact this

theorem catF_octet : ∀ (gs : List (Int × List Int)), (∀ g ∈ gs, OkRec g) → ∀ x ∈ catF gs, 0 ≤ x ∧ x ≤ 255
  | [], _, x, hx => by cases hx
  | g :: r, hok, x, hx => by
    rcases List.mem_append.1 hx with h | h
    · obtain ⟨hk, hl, ho⟩ := hok g (by simp)
      exact frame_octet g.1 g.2 hk hl ho x h
    · exact catF_octet r (fun q hq => hok q (by simp [hq])) x h

theorem catF_len : ∀ (gs : List (Int × List Int)), (∀ g ∈ gs, OkRec g) → (catF gs).length ≤ 70000 * gs.length
  | [], _ => by simp [catF]
  | g :: r, hok => by
    have ih := catF_len r (fun q hq => hok q (by simp [hq]))
    obtain ⟨_, hl, _⟩ := hok g (by simp)
    have hF := frame_len g.1 g.2
    have := octets_len (g.2.length : Int) (by omega) (by omega)
    simp only [catF, List.length_append, List.length_cons]
    omega

/-- Where each record ends. -/
def endsF (gs : List (Int × List Int)) : List Nat := (List.range gs.length).map fun i => (catF (gs.take (i + 1))).length

/-- What the law's own search finds among the first i records. -/
def lastF (gs : List (Int × List Int)) (m : Nat) : Nat → Nat × Nat
  | 0 => (0, 0)
  | i + 1 => if (catF (gs.take (i + 1))).length ≤ m then (i + 1, (catF (gs.take (i + 1))).length) else lastF gs m i

theorem lastF_cnt (gs : List (Int × List Int)) (m : Nat) : ∀ i, i ≤ gs.length → lastF gs m i = (min i (cntF gs m), (catF (gs.take (min i (cntF gs m)))).length) := by
  have key : ∀ (gs : List (Int × List Int)) (m i : Nat), i ≤ gs.length → ((catF (gs.take i)).length ≤ m ↔ i ≤ cntF gs m) := by
    intro gs
    induction gs with
    | nil => intro m i hi; simp at hi; subst hi; simp [catF, cntF]
    | cons g r ih =>
      intro m i hi
      cases i with
      | zero => simp [catF]
      | succ i =>
        simp only [List.take_succ_cons, catF, List.length_append, cntF]
        have hi' : i ≤ r.length := by simpa using hi
        split
        · rename_i h
          have := ih (m - (frameOf g.1 g.2).length) i hi'
          omega
        · rename_i h
          omega
  intro i
  induction i with
  | zero => intro _; simp [lastF, catF]
  | succ i ih =>
    intro hi
    unfold lastF
    split
    · rename_i h
      have := (key gs m (i + 1) hi).1 h
      rw [Nat.min_eq_left this]
    · rename_i h
      have h2 : ¬ i + 1 ≤ cntF gs m := fun q => h ((key gs m (i + 1) hi).2 q)
      rw [ih (by omega), show min (i + 1) (cntF gs m) = min i (cntF gs m) by omega]

theorem cntF_le : ∀ (gs : List (Int × List Int)) (m : Nat), cntF gs m ≤ gs.length
  | [], m => Nat.le_refl _
  | g :: r, m => by
    unfold cntF
    split
    · have := cntF_le r (m - (frameOf g.1 g.2).length)
      simp only [List.length_cons]
      omega
    · exact Nat.zero_le _
end Go.Proofs.Ytgphkddcfcmaiaa
