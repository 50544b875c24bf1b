/- The law SumGoesOn, walked, for two texts of together at most 2^47 octets. -/
import Derived.Test.YtlomjgejdeghhaaBareAny
namespace Go.Proofs.Ytlomjgejdeghhaa
open Go.RowKit SumPlain
set_option linter.unusedVariables false

set_option maxHeartbeats 1000000 in
theorem goes_walk (c : BitVec 32) (va vb : Value) (la lb : List Int) (w : World) (ha : Octs w va la) (hla : la.length ≤ 1048576) (hb : Octs w vb lb) (hlb : lb.length ≤ 1048576) :
    Calls Try.prog 4 #[.int .u32 (c.toNat : Int), va, vb] w fun e w' => e = .returned (.bool true) ∧ Below w.heap.size w w' := by
  have HA : Hid (Octs w va la) := ha
  have HB : Hid (Octs w vb lb) := hb
  have HE : Hid (ext c (la ++ lb) = ext (ext c la) lb) := ext_app c la lb
  clear ha hb
  go_enter Try.func4, Try.ntmps4
  go_wp2_with fail
  refine (alive_any _).mono ?_
  rintro e w1 ⟨rfl, hb1⟩
  go_wp2_with fail
  refine (extend_any c la _ _ (HA.out.up hb1)).mono ?_
  rintro e w2 ⟨rfl, rfl⟩
  go_wp2_with fail
  refine (extend_any (ext c la) lb _ _ (HB.out.up hb1)).mono ?_
  rintro e w2 ⟨rfl, rfl⟩
  go_wp2_with fail
  refine (copy_any la _ _ (HA.out.up hb1) (by omega)).mono ?_
  rintro e w3 ⟨v3, rfl, hown3, hb3⟩
  have HO3 : Hid (OwnB w3 w2.heap.size v3 la) := hown3
  have up3 : Hid (Below w.heap.size w w3) := up_trans hb1 hb3
  have hs3 := hb3.size
  have hs1 := hb1.size
  clear hown3 hb3 hb1
  go_wp2_with (at_builtin; refine wpList_append_octs_g _ rfl _ _ rfl w2.heap.size _ la rfl HO3.out _ lb rfl (HB.out.up up3.out) ?c1 ?c2 ?_)
  try case c1 => omega
  try case c2 => exact hs3
  intro v4 w4 hown4 hg4
  have HO4 : Hid (Octs w4 v4 (la ++ lb)) := Octs.own hown4 (by
    intro x hx
    rcases List.mem_append.1 hx with h | h
    · exact HA.out.1 x h
    · exact HB.out.1 x h)
  have up4 : Hid (Below w.heap.size w w4) := up3.out.grown hg4 (by omega) (fun k hk => Nat.le_trans hs1 (HO3.out.lt k hk).1)
  clear hown4 hg4
  go_wp2_with fail
  refine (extend_any c (la ++ lb) _ _ HO4.out).mono ?_
  rintro e w5 ⟨rfl, rfl⟩
  rw [HE.out]
  go_wp2
  go_ret
  exact ⟨rfl, up4.out⟩
end Go.Proofs.Ytlomjgejdeghhaa
