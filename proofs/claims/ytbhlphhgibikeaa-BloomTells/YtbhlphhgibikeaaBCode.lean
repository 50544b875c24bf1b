/- Encode: a filter as octets, the program's and the document's. -/
import Derived.Test.YtbhlphhgibikeaaBMk
namespace Go.Proofs.Ytbhlphhgibikeaa
open Go.RowKit
set_option linter.unusedVariables false

def encL (k : Int) (l : List Int) : List Int := if mayB k l.length then k :: l else []

theorem may_le {k : Int} {n : Nat} (h : mayB k n = true) : 1 ≤ k ∧ k ≤ 8 ∧ 1 ≤ n ∧ n ≤ 8192 := by
  unfold mayB at h
  simp at h
  exact h

theorem own_one (w : World) (x : Int) {base N : Nat} (hb : base ≤ w.heap.size) (hN : w.heap.size = N) : OwnB (w.alloc (.cells #[.int .u8 x] 5)) base (.slice (some ⟨N, 0, none⟩) 1 1) [x] := by
  subst hN
  exact World.ownsRow_lit (base := base) (e := 5) (size := 1) w #[.int .u8 x] 1 hb (by unfold maxLen; omega) rfl

set_option maxHeartbeats 1000000 in
theorem encode_any (k : Int) (l : List Int) (a : Option Addr) (c : Nat) (w : World) (hv : Octs w (.slice a l.length c) l) :
    Calls Try.prog 22 #[.agg #[.int .i64 k, .slice a l.length c]] w fun e w' => ∃ a' n' c', e = .returned (.tuple #[.slice a' n' c', .int .i64 (chkE k l.length)]) ∧ n' = (encL k l).length ∧ OwnB w' w.heap.size (.slice a' n' c') (encL k l) ∧ Below w.heap.size w w' := by
  have HX : encL k l = if mayB k l.length then k :: l else [] := rfl
  have HE : chkE k l.length = if mayB k l.length then 0 else 9 := rfl
  have HM : Hid (∀ w : World, Calls Try.prog 30 #[.agg #[.int .i64 k, .slice a l.length c]] w fun e w' => e = .returned (.bool (mayB k l.length)) ∧ w' = w.alloc (.cells #[.int .i64 k, .slice a l.length c] 27)) := fun w => mayBe_any k a _ c w
  cases hmay : mayB k l.length
  · rw [hmay] at HX HE HM
    simp at HX HE
    rw [HX, HE]
    clear HX HE
    go_enter Try.func22, Try.ntmps22
    go_wp2_with fail
    refine (HM.out _).mono ?_
    rintro e w1 ⟨rfl, rfl⟩
    go_wp2
    go_ret2
    exact ⟨none, 0, 0, rfl, rfl, OwnB.nil _ _, up_al (up_alloc _ _) _⟩
  · obtain ⟨k1, k2, n1, n2⟩ := may_le hmay
    rw [hmay] at HX HE HM
    simp at HX HE
    rw [HX, HE]
    clear HX HE
    have HO : Hid (Octs (((w.alloc (.cells #[.int .i64 k, .slice a l.length c] 27)).alloc (.cells #[.int .i64 k, .slice a l.length c] 27)).alloc (.cells #[.int .u8 k] 5)) (.slice a l.length c) l) := hv.up (up_al (up_al (up_alloc _ _) _) _)
    have HW : Hid (OwnB (((w.alloc (.cells #[.int .i64 k, .slice a l.length c] 27)).alloc (.cells #[.int .i64 k, .slice a l.length c] 27)).alloc (.cells #[.int .u8 k] 5)) w.heap.size (.slice (some ⟨w.heap.size + 1 + 1, 0, none⟩) 1 1) [k]) := own_one _ _ (by simp; omega) (by simp)
    have hm8 : k % 256 = k := by omega
    have HOX : Hid (OctL l) := hv.1
    clear hv
    go_enter Try.func22, Try.ntmps22
    go_wp2_with fail
    refine (HM.out _).mono ?_
    rintro e w1 ⟨rfl, rfl⟩
    go_wp2_with (at_builtin; refine wpList_append_octs _ rfl _ _ rfl w.heap.size _ [k] rfl HW.out _ l rfl HO.out ?c1 ?c2 ?_)
    case c1 => simp; omega
    case c2 => simp; omega
    intro v' w' hown hg
    obtain ⟨a', nq, c', rfl, hq⟩ := own_shape hown
    have HOW : Hid (OwnB w' w.heap.size (.slice a' nq c') ([k] ++ l)) := hown
    have HB : Hid (Below w.heap.size w w') := (up_al (up_al (up_alloc w (.cells #[.int .i64 k, .slice a l.length c] 27)) (.cells #[.int .i64 k, .slice a l.length c] 27)) (.cells #[.int .u8 k] 5)).grown hg (by simp; omega) (fun j hj => by simp [Value.ownBlock] at hj; omega)
    clear hown hg HO HW HM
    go_wp2
    go_ret2
    exact ⟨a', nq, c', rfl, hq.out, HOW.out, HB.out⟩

set_option maxHeartbeats 1000000 in
theorem refEncode_any (k : Int) (l : List Int) (a : Option Addr) (c : Nat) (w : World) (hv : Octs w (.slice a l.length c) l) :
    Calls Try.prog 23 #[.agg #[.int .i64 k, .slice a l.length c]] w fun e w' => ∃ a' n' c', e = .returned (.tuple #[.slice a' n' c', .int .i64 (chkE k l.length)]) ∧ n' = (encL k l).length ∧ OwnB w' w.heap.size (.slice a' n' c') (encL k l) ∧ Below w.heap.size w w' := by
  have HX : encL k l = if mayB k l.length then k :: l else [] := rfl
  have HE : chkE k l.length = if mayB k l.length then 0 else 9 := rfl
  have HM : Hid (∀ w : World, Calls Try.prog 31 #[.agg #[.int .i64 k, .slice a l.length c]] w fun e w' => e = .returned (.int .i64 (chkE k l.length)) ∧ w' = w.alloc (.cells #[.int .i64 k, .slice a l.length c] 25)) := fun w => check_any k a _ c w
  cases hmay : mayB k l.length
  · rw [hmay] at HX HE
    simp at HX HE
    rw [HX]
    rw [HE] at HM ⊢
    clear HX HE
    go_enter Try.func23, Try.ntmps23
    go_wp2_with fail
    refine (HM.out _).mono ?_
    rintro e w1 ⟨rfl, rfl⟩
    go_wp2
    go_ret2
    exact ⟨none, 0, 0, rfl, rfl, OwnB.nil _ _, up_al (up_alloc _ _) _⟩
  · obtain ⟨k1, k2, n1, n2⟩ := may_le hmay
    rw [hmay] at HX HE
    simp at HX HE
    rw [HX]
    rw [HE] at HM ⊢
    clear HX HE
    have HO : Hid (Octs (((w.alloc (.cells #[.int .i64 k, .slice a l.length c] 25)).alloc (.cells #[.int .i64 k, .slice a l.length c] 25)).alloc (.cells #[.int .u8 k] 5)) (.slice a l.length c) l) := hv.up (up_al (up_al (up_alloc _ _) _) _)
    have HW : Hid (OwnB (((w.alloc (.cells #[.int .i64 k, .slice a l.length c] 25)).alloc (.cells #[.int .i64 k, .slice a l.length c] 25)).alloc (.cells #[.int .u8 k] 5)) w.heap.size (.slice (some ⟨w.heap.size + 1 + 1, 0, none⟩) 1 1) [k]) := own_one _ _ (by simp; omega) (by simp)
    have hm8 : k % 256 = k := by omega
    have HOX : Hid (OctL l) := hv.1
    clear hv
    go_enter Try.func23, Try.ntmps23
    go_wp2_with fail
    refine (HM.out _).mono ?_
    rintro e w1 ⟨rfl, rfl⟩
    go_wp2_with (at_builtin; refine wpList_append_octs _ rfl _ _ rfl w.heap.size _ [k] rfl HW.out _ l rfl HO.out ?c1 ?c2 ?_)
    case c1 => simp; omega
    case c2 => simp; omega
    intro v' w' hown hg
    obtain ⟨a', nq, c', rfl, hq⟩ := own_shape hown
    have HOW : Hid (OwnB w' w.heap.size (.slice a' nq c') ([k] ++ l)) := hown
    have HB : Hid (Below w.heap.size w w') := (up_al (up_al (up_alloc w (.cells #[.int .i64 k, .slice a l.length c] 25)) (.cells #[.int .i64 k, .slice a l.length c] 25)) (.cells #[.int .u8 k] 5)).grown hg (by simp; omega) (fun j hj => by simp [Value.ownBlock] at hj; omega)
    clear hown hg HO HW HM
    go_wp2
    go_ret2
    exact ⟨a', nq, c', rfl, hq.out, HOW.out, HB.out⟩
end Go.Proofs.Ytbhlphhgibikeaa
