/- Add of layer 6. -/
import Derived.Test.YtgphkddcfcmaiaaWEnc2
import Derived.Test.YtgphkddcfcmaiaaFWide
namespace Go.Proofs.Ytgphkddcfcmaiaa
open Go.RowKit SumPlain
set_option linter.unusedVariables false

theorem add_bad (s : Int) (cs : List Chg) (a : Option Addr) (c : Nat) (al : Option Addr) (nl cl : Nat) (w : World) (hv : ChgsR w (.slice a cs.length c) cs) (h : checkOf s cs ≠ 0) :
    Calls Try.prog 24 #[.slice al nl cl, .agg #[.int .i64 s, .slice a cs.length c]] w fun e w' => e = .returned (.tuple #[.slice none 0 0, .int .i64 (checkOf s cs)]) ∧ Below w.heap.size w w' := by
  have HV : Hid (∀ o, ChgsR (w.alloc o) (.slice a cs.length c) cs) := fun o => hv.up (up_alloc w o)
  have hz' : (checkOf s cs == 0) = false := by simp [h]
  clear hv
  go_enter Try.func24, Try.ntmps24
  go_wp2_with fail
  refine (encode_bad s cs a c _ (HV.out _) h).mono ?_
  rintro e w1 ⟨rfl, b1⟩
  have HB : Hid (Below w.heap.size w w1) := up_trans (up_alloc w _) b1
  clear b1
  go_wp2
  go_ret2
  exact ⟨rfl, HB.out⟩

theorem frame_bound (s : Int) (cs : List Chg) (h : checkOf s cs = 0) : (frameOf 1 (encOf s cs)).length ≤ 70000 := by
  have := encOf_len s cs h
  have h1 := frame_len 1 (encOf s cs)
  have := octets_len ((encOf s cs).length : Int) (by omega) (by omega)
  omega
theorem frame_octs (s : Int) (cs : List Chg) (h : checkOf s cs = 0) : ∀ x ∈ frameOf 1 (encOf s cs), 0 ≤ x ∧ x ≤ 255 := frame_octet 1 _ (by decide) (encOf_len s cs h) (encOf_octet s cs h)

set_option maxHeartbeats 1000000 in
theorem add_good (s : Int) (cs : List Chg) (a : Option Addr) (c : Nat) (l : List Int) (al : Option Addr) (cl : Nat) (w : World) (hv : ChgsR w (.slice a cs.length c) cs) (hl : Octs w (.slice al l.length cl) l) (hb : l.length ≤ 140737488355328) (h : checkOf s cs = 0) :
    Calls Try.prog 24 #[.slice al l.length cl, .agg #[.int .i64 s, .slice a cs.length c]] w fun e w' => ∃ a' n' c', e = .returned (.tuple #[.slice a' n' c', .int .i64 0]) ∧ Hid (OwnB w' w.heap.size (.slice a' n' c') (l ++ frameOf 1 (encOf s cs))) ∧ Hid (Below w.heap.size w w') := by
  have HV : Hid (∀ o, ChgsR (w.alloc o) (.slice a cs.length c) cs) := fun o => hv.up (up_alloc w o)
  have HL : Hid (Octs w (.slice al l.length cl) l) := hl
  have HX : Hid (∀ x ∈ encOf s cs, 0 ≤ x ∧ x ≤ 255) := encOf_octet s cs h
  have HN : Hid ((encOf s cs).length ≤ 65536) := encOf_len s cs h
  have HF : Hid ((frameOf 1 (encOf s cs)).length ≤ 70000 ∧ l.length ≤ 140737488355328) := ⟨frame_bound s cs h, hb⟩
  have HFX : Hid (∀ x ∈ frameOf 1 (encOf s cs), 0 ≤ x ∧ x ≤ 255) := frame_octs s cs h
  clear hv hl hb
  go_enter Try.func24, Try.ntmps24
  go_wp2_with fail
  refine (encode_good s cs a c _ (HV.out _) h).mono ?_
  rintro e w1 ⟨a1, n1, c1, rfl, O1, B1⟩
  have U1 : Hid (Below w.heap.size w w1) := up_trans (up_alloc w _) B1.out
  have P1 : Hid (Octs w1 (.slice a1 n1 c1) (encOf s cs)) := Octs.own O1.out HX.out
  have hn1 : n1 = (encOf s cs).length := by
    obtain ⟨x, y, e, _⟩ := P1.out.len
    simp at e
    exact e.2.1
  subst hn1
  clear O1 B1 h HV
  go_wp2_with fail
  refine (fput_good 1 a1 c1 (encOf s cs) w1 P1.out (by decide) (by decide) HN.out).mono ?_
  rintro e w2 ⟨v2, rfl, o2, b2⟩
  obtain ⟨a2, n2, c2, rfl, N2⟩ := own_shape o2
  have U2 : Hid (Below w.heap.size w w2) := up_trans U1.out b2
  have P2 : Hid (Octs w2 (.slice a2 n2 c2) (frameOf 1 (encOf s cs))) := Octs.own o2 HFX.out
  have L2 : Hid (Octs w2 (.slice al l.length cl) l) := HL.out.up U2.out
  clear o2 b2 P1 U1 HN HX
  go_wp2_with (at_builtin; refine wpList_append_octs _ rfl _ _ rfl w2.heap.size _ [] rfl (OwnB.nil _ _) _ l rfl L2.out ?c1 (Nat.le_refl _) ?_)
  case c1 => have := HF.out; simp; omega
  intro v3 w3 o3 g3
  replace o3 : OwnB w3 w2.heap.size v3 l := o3
  obtain ⟨a3, n3, c3, rfl, N3⟩ := own_shape o3
  have B3 : Hid (Below w2.heap.size w2 w3) := below_grown g3 (Nat.le_refl _) (fun k hk => by cases hk)
  have O3 : Hid (OwnB w3 w2.heap.size (.slice a3 n3 c3) l) := o3
  have P3 : Hid (Octs w3 (.slice a2 n2 c2) (frameOf 1 (encOf s cs))) := P2.out.up B3.out
  have S3 : Hid (w2.heap.size ≤ w3.heap.size) := B3.out.size
  have U3 : Hid (Below w.heap.size w w3) := up_trans U2.out B3.out
  have S2 : Hid (w.heap.size ≤ w2.heap.size) := U2.out.size
  clear o3 g3 P2 L2
  go_wp2_with (at_builtin; refine wpList_append_octs_wide _ rfl _ _ rfl w2.heap.size _ l rfl O3.out _ _ rfl P3.out ?c2 S3.out ?_)
  case c2 => have := HF.out; omega
  intro v4 w4 o4 g4
  obtain ⟨a4, n4, c4, rfl, N4⟩ := own_shape o4
  have O4 : Hid (OwnB w4 w.heap.size (.slice a4 n4 c4) (l ++ frameOf 1 (encOf s cs))) := OwnB.mono o4 S2.out
  have U4 : Hid (Below w.heap.size w w4) := U3.out.grown g4 (by have := S2.out; have := S3.out; omega) (fun j hj => by have := (O3.out.lt j hj).1; have := S2.out; omega)
  clear o4 g4
  go_wp2
  go_ret2
  exact ⟨_, _, _, rfl, O4, U4⟩
end Go.Proofs.Ytgphkddcfcmaiaa
