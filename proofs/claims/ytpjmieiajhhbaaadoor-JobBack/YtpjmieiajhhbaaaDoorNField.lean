/- The document's field. -/
import Derived.Test.YtpjmieiajhhbaaaDoorNItem
namespace Go.Proofs.YtpjmieiajhhbaaaDoor
open Go.RowKit
set_option linter.unusedVariables false
set_option linter.unusedSimpArgs false

def strLen (v : Value) : Nat := match v with
  | .string b => b.size
  | _ => 0
set_option maxHeartbeats 2000000 in
set_option maxRecDepth 20000 in
theorem fieldR_any (l : List Int) (lo hi : Nat) (hlo : lo < 64) (hh : hi < 64) (hx : ∀ x ∈ l, 0 ≤ x ∧ x ≤ 255) (hm : l.length ≤ 1000000) (w : World) :
    Calls Tryd.prog 49 #[.string (strOfNums l), .int .i64 (lo : Int), .int .i64 (hi : Int)] w fun e w' => e = .returned (.int .u64 (fieldN l lo hi : Int)) ∧ Below w.heap.size w w' := by
  have CI : Hid (∀ (l' : List Int), l'.length ≤ 1000000 → (∀ x ∈ l', 0 ≤ x ∧ x ≤ 255) → ∀ w', Calls Tryd.prog 68 #[.string (strOfNums l'), .int .i64 (lo : Int), .int .i64 (hi : Int)] w' fun e w'' => e = .returned (.int .u64 (itemN l' lo hi : Int)) ∧ Below w'.heap.size w' w'') := fun l' h1 h2 w' => itemR_any l' lo hi hlo hh h2 h1 w'
  have CC : Hid (∀ (l' : List Int), l'.length ≤ 1000000 → (∀ x ∈ l', 0 ≤ x ∧ x ≤ 255) → ∀ w', Calls Tryd.prog 67 #[.string (strOfNums l'), .int .u8 44] w' fun e w'' => e = .returned (.int .i64 (cutI l' 44)) ∧ w'' = w') := fun l' h1 h2 w' => cutR_any l' 44 h2 (by omega) w'
  have HF : Hid (fieldN l lo hi = goF 0 l lo hi) := rfl
  have HX := hid hx
  have HM := hid hm
  clear hx hm
  go_enter Tryd.func49, Tryd.ntmps49
  go_wp2_with fail
  go_loopw [0, 7] (fun t s wr => ∃ (l' : List Int) (acc : Nat), t = .string (strOfNums l') ∧ s = .int .u64 (acc : Int) ∧ acc < 18446744073709551616 ∧ Hid (l'.length ≤ 1000000 ∧ (∀ x ∈ l', 0 ≤ x ∧ x ≤ 255) ∧ fieldN l lo hi = goF acc l' lo hi) ∧ Hid (Below w.heap.size w wr)) (fun t _ _ => strLen t)
  case atStart => exact ⟨l, 0, rfl, rfl, by omega, ⟨HM.out, HX.out, HF.out⟩, Below.refl _ _⟩
  case round =>
    obtain ⟨l', acc, rfl, rfl, ha, HI, HB⟩ := hrel
    have hsz := strOfNums_size l'
    have hm := HI.out.1
    have K0 := hid (CC.out l' hm HI.out.2.1 wr)
    by_cases c : cutN l' 44 < l'.length
    · have E1 : cutI l' 44 = (cutN l' 44 : Int) := if_pos c
      rw [E1] at K0
      have G := hid (HI.out.2.2.trans (goF_more c))
      have K1 := hid (CI.out (l'.take (cutN l' 44)) (by rw [List.length_take]; omega) (octs_take HI.out.2.1 _))
      have xl := itemN_lt (l'.take (cutN l' 44)) lo hi
      have et := cut_tail l' (cutN l' 44 + 1) l'.length rfl
      have eh := cut_head l' (cutN l' 44) l'.length (by omega) rfl
      have HL : Hid ((l'.drop (cutN l' 44 + 1)).length < l'.length ∧ (l'.drop (cutN l' 44 + 1)).length ≤ 1000000 ∧ ∀ x ∈ l'.drop (cutN l' 44 + 1), 0 ≤ x ∧ x ≤ 255) := by
        refine ⟨?_, ?_, octs_drop HI.out.2.1 _⟩ <;> rw [List.length_drop] <;> omega
      have HSL : Hid (strLen (.string (strOfNums l')) = l'.length) := hsz
      clear E1
      generalize itemN (l'.take (cutN l' 44)) lo hi = x at *
      generalize l'.take (cutN l' 44) = la at *
      generalize l'.drop (cutN l' 44 + 1) = lb at *
      generalize cutN l' 44 = k at *
      go_wp2_with fail
      refine K0.out.mono ?_
      rintro e w2 ⟨rfl, rfl⟩
      go_wp2_with fail
      refine (K1.out _).mono ?_
      rintro e w3 ⟨rfl, hb3⟩
      have hb3 := hid (up_trans HB.out hb3)
      by_cases q : x = 0
      · subst q
        have E0 : Hid (fieldN l lo hi = 0) := G.out.trans (if_pos rfl)
        go_wp2
        go_ret
        exact ⟨by rw [E0.out]; rfl, hb3.out⟩
      · have G2 : Hid (fieldN l lo hi = goF (acc ||| x) lb lo hi) := G.out.trans (if_neg q)
        have po := hid (bit_or acc x ha xl)
        have ol := or_lt ha xl
        have qx : ((x : Int) == 0) = false := by simpa using q
        go_wp2

        exact ⟨⟨lb, acc ||| x, rfl, by rw [po.out], ol, ⟨HL.out.2.1, HL.out.2.2, G2.out⟩, hb3⟩, by rw [HSL.out]; show (strOfNums lb).size < _; rw [strOfNums_size]; exact HL.out.1⟩
    · have E1 : cutI l' 44 = -1 := if_neg c
      rw [E1] at K0
      have G := hid (HI.out.2.2.trans (goF_last c))
      have K1 := hid (CI.out l' hm HI.out.2.1)
      have xl := itemN_lt l' lo hi
      clear E1 c
      generalize itemN l' lo hi = x at *
      go_wp2_with fail
      refine K0.out.mono ?_
      rintro e w2 ⟨rfl, rfl⟩
      go_wp2_with fail
      refine (K1.out _).mono ?_
      rintro e w3 ⟨rfl, hb3⟩
      have hb3 := hid (up_trans HB.out hb3)
      by_cases q : x = 0
      · subst q
        have E0 : Hid (fieldN l lo hi = 0) := G.out.trans (if_pos rfl)
        go_wp2
        go_ret
        exact ⟨by rw [E0.out]; rfl, hb3.out⟩
      · have G2 : Hid (fieldN l lo hi = acc ||| x) := G.out.trans (if_neg q)
        have po := hid (bit_or acc x ha xl)
        have qx : ((x : Int) == 0) = false := by simpa using q
        go_wp2
        go_ret
        exact ⟨by rw [G2.out, ← po.out]; rfl, hb3.out⟩
end Go.Proofs.YtpjmieiajhhbaaaDoor
