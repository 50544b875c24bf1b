/- Spoil writes over a slice's own octets alone; the law SumOwn, walked. -/
import Derived.Test.YtlomjgejdeghhaaZeroWalk
namespace Go.Proofs.Ytlomjgejdeghhaa
open Go.RowKit SumPlain
set_option linter.unusedVariables false

theorem grown_trans {a b c : World} {r : Option Nat} (h : a.grownBy b r) (k : b.grownBy c r) : a.grownBy c r := by
  obtain ⟨h1, h2, h3, h4, h5⟩ := h
  obtain ⟨k1, k2, k3, k4, k5⟩ := k
  exact ⟨k1.trans h1, k2.trans h2, k3.trans h3, Nat.le_trans h4 k4, fun j hj hn => (k5 j (Nat.lt_of_lt_of_le hj h4) hn).trans (h5 j hj hn)⟩

theorem xor_u8 (a b : Int) : 0 ≤ bits .xor .u8 a b ∧ bits .xor .u8 a b ≤ 255 := by
  show 0 ≤ IntKind.u8.wrap _ ∧ IntKind.u8.wrap _ ≤ 255
  rw [IntKind.wrap_u8']
  omega

set_option maxHeartbeats 1000000 in
theorem spoil_any (l : List Int) (v : Value) (w : World) (base : Nat) (hv : OwnB w base v l) (hx : ∀ x ∈ l, 0 ≤ x ∧ x ≤ 255) (hl : l.length ≤ 140737488355328) :
    Calls Try.prog 21 #[v] w fun e w' => (∃ u, e = .returned u) ∧ w.grownBy w' v.ownBlock := by
  obtain ⟨a, cap, rfl, hcap⟩ := own_len hv
  obtain ⟨n, hn⟩ : ∃ n, n = l.length := ⟨_, rfl⟩
  have HV : Hid (OwnB w base (.slice a n cap) l ∧ l.length = n ∧ ∀ x ∈ l, 0 ≤ x ∧ x ≤ 255) := by subst hn; exact ⟨hv, rfl, hx⟩
  rw [← hn] at hcap hl ⊢
  clear hv hn hx
  go_enter Try.func21, Try.ntmps21
  go_wp2
  go_loopw [2] (fun i wr => ∃ (k : Nat) (l' : List Int), k ≤ n ∧ i = .int .i64 k ∧ Hid (OwnB wr base (.slice a n cap) l' ∧ l'.length = n ∧ ∀ x ∈ l', 0 ≤ x ∧ x ≤ 255) ∧ Hid (w.grownBy wr (Value.slice a n cap).ownBlock)) (fun i _ => n - (intOf i).toNat)
  case atStart => exact ⟨0, l, Nat.zero_le _, rfl, HV, grown_refl _ _⟩
  case round =>
    obtain ⟨k, l', hk, rfl, HO, HG⟩ := hrel
    by_cases hlt : k < n
    · have hlt' : (k : Int) < (n : Int) := by omega
      obtain ⟨ho, hn', hoct⟩ := HO.out
      obtain ⟨g, rfl⟩ : ∃ g, a = some ⟨g, 0, none⟩ := by
        obtain ⟨_, h⟩ := ho
        rcases h with ⟨e, h0⟩ | ⟨g, c2, cur, e, _⟩
        · rw [hn'] at h0
          omega
        · simp at e
          exact ⟨g, e.1⟩
      unfold OwnB at ho
      rw [hn'] at ho
      have hc0 := ho.cellAt k (by omega)
      have hf0 := ho.frozenAt k
      obtain ⟨y, hy⟩ : ∃ y, l'[k]? = some y := ⟨_, List.getElem?_eq_getElem (by omega)⟩
      rw [List.getElem?_map, hy] at hc0
      simp only [Option.map_some] at hc0
      obtain ⟨y0, y1⟩ := hoct y (List.mem_of_getElem? hy)
      have HSt : Hid (∀ z : Int, OwnB (wr.setCell ⟨g, k, none⟩ (.int .u8 z)) base (.slice (some ⟨g, 0, none⟩) n cap) (l'.set k z) ∧ wr.grownBy (wr.setCell ⟨g, k, none⟩ (.int .u8 z)) (some g)) := by
        intro z
        have hst := ho.stored k (.int .u8 z)
        refine ⟨?_, hst.2⟩
        unfold OwnB
        rw [List.length_set, hn', List.map_set]
        exact hst.1
      have HOct : Hid (∀ z : Int, 0 ≤ z ∧ z ≤ 255 → ∀ x ∈ l'.set k z, 0 ≤ x ∧ x ≤ 255) := by
        intro z hz x hx
        rcases List.mem_or_eq_of_mem_set hx with h1 | h1
        · exact hoct x h1
        · rw [h1]; exact hz
      clear ho hoct
      go_wp2
      exact ⟨⟨k + 1, l'.set k _, by omega, by go_num, ⟨(HSt.out _).1, by rw [List.length_set]; exact hn', HOct.out _ (xor_u8 _ _)⟩, grown_trans HG.out (HSt.out _).2⟩, by simp [intOf]; omega⟩
    · have hlt' : ¬ (k : Int) < (n : Int) := by omega
      go_wp2
      go_end0
      exact ⟨⟨_, rfl⟩, HG.out⟩

/-- What lies in another block is as it was. -/
theorem Octs.far {w w' : World} {v : Value} {l : List Int} {r : Option Nat} (h : Octs w v l) (hg : w.grownBy w' r) (hne : ∀ b, v.ownBlock = some b → l ≠ [] → some b ≠ r) : Octs w' v l :=
  h.moved fun b off x hn hv hc => hg.cell hc (hne b hv hn)

theorem Octs.lt {w : World} {v : Value} {l : List Int} (h : Octs w v l) (b : Nat) (hb : v.ownBlock = some b) (hn : l ≠ []) : b < w.heap.size := by
  obtain ⟨_, h⟩ := h
  rcases h with ⟨h0, _⟩ | ⟨_, b', off, cap, rfl, _, _, hj⟩
  · exact absurd h0 hn
  · simp [Value.ownBlock] at hb
    subst hb
    cases l with
    | nil => exact absurd rfl hn
    | cons x r => exact World.block_lt_of_cell? w ⟨b', off + 0, none⟩ (hj 0 x rfl)

set_option maxHeartbeats 1000000 in
theorem own_walk (v : Value) (l : List Int) (w : World) (hv : Octs w v l) (hl : l.length ≤ 140737488351232) :
    Calls Try.prog 8 #[v] w fun e w' => e = .returned (.bool true) ∧ Below w.heap.size w w' := by
  have HV : Hid (Octs w v l) := hv
  clear hv
  go_enter Try.func8, Try.ntmps8
  go_wp2_with fail
  refine (alive_any _).mono ?_
  rintro e w1 ⟨rfl, hb1⟩
  go_wp2_with fail
  refine (copy_any l _ _ (HV.out.up hb1) (by omega)).mono ?_
  rintro e w2 ⟨v2, rfl, hown2, hb2⟩
  have HO2 : Hid (Octs w2 v2 l) := Octs.own hown2 HV.out.1
  have HW2 : Hid (OwnB w2 w1.heap.size v2 l) := hown2
  clear hown2
  go_wp2_with fail
  refine (guard_any l _ _ HO2.out hl).mono ?_
  rintro e w3 ⟨v3, rfl, hown3, hb3⟩
  have hgl := guard_len l
  have HW3 : Hid (OwnB w3 w2.heap.size v3 (guardOf l)) := hown3
  have HW23 : Hid (OwnB w3 w1.heap.size v2 l) := own_up HW2.out hb3
  clear hown3
  go_wp2_with fail
  refine (spoil_any l _ _ _ HW23.out HV.out.1 (by omega)).mono ?_
  rintro e w4 ⟨⟨u4, rfl⟩, hg4⟩
  have hs12 := hb2.size
  have hs23 := hb3.size
  have hs34 := hg4.size
  have hs01 := hb1.size
  have HV4 : Hid (Octs w4 v l) := (HV.out.up (up_trans hb1 (up_trans hb2 hb3))).far hg4 (fun b hb hn e => by
    have h1 := HV.out.lt b hb hn
    have h2 := (HW23.out.lt b e.symm).1
    omega)
  have HW34 : Hid (OwnB w4 w2.heap.size v3 (guardOf l)) := World.ownsRow.kept HW3.out hg4 (by
    cases hb : v3.ownBlock with
    | none => exact .inl rfl
    | some b =>
      refine .inr fun e => ?_
      have h1 := (HW3.out.lt b hb).1
      have h2 := (HW2.out.lt b e.symm).2
      omega)
  have HO34 : Hid (Octs w4 v3 (guardOf l)) := Octs.own HW34.out (guard_octet l HV.out.1)
  have up4 : Hid (Below w.heap.size w w4) := (up_trans hb1 (up_trans hb2 hb3)).grown hg4 (by omega) (fun k hk => by
    have := (HW23.out.lt k hk).1
    omega)
  clear hg4
  go_wp2_with fail
  refine (bare_any (guardOf l) _ _ HO34.out (by rw [hgl]; omega)).mono ?_
  rintro e w5 ⟨v5, rfl, hown5, hb5⟩
  rw [guard_bare l] at hown5 ⊢
  have HW5 : Hid (OwnB w5 w4.heap.size v5 l) := hown5
  have HW35 : Hid (OwnB w5 w2.heap.size v3 (guardOf l)) := own_up HW34.out hb5
  clear hown5
  have hs45 := hb5.size
  go_wp2_with fail
  refine (spoil_any (guardOf l) _ _ _ HW35.out (guard_octet l HV.out.1) (by rw [hgl]; omega)).mono ?_
  rintro e w6 ⟨⟨u6, rfl⟩, hg6⟩
  have hs56 := hg6.size
  have HV6 : Hid (Octs w6 v l) := (HV4.out.up hb5).far hg6 (fun b hb hn e => by
    have h1 := HV.out.lt b hb hn
    have h2 := (HW35.out.lt b e.symm).1
    omega)
  have HW56 : Hid (OwnB w6 w4.heap.size v5 l) := World.ownsRow.kept HW5.out hg6 (by
    cases hb : v5.ownBlock with
    | none => exact .inl rfl
    | some b =>
      refine .inr fun e => ?_
      have h1 := (HW5.out.lt b hb).1
      have h2 := (HW34.out.lt b e.symm).2
      omega)
  have HO56 : Hid (Octs w6 v5 l) := Octs.own HW56.out HV.out.1
  have up6 : Hid (Below w.heap.size w w6) := (up_trans up4.out hb5).grown hg6 (by omega) (fun k hk => by
    have := (HW35.out.lt k hk).1
    omega)
  clear hg6
  go_wp2_with fail
  refine (num_any _ _).mono ?_
  rintro e w7 ⟨rfl, rfl⟩
  go_wp2_with fail
  refine (same_any l l _ _ _ HO56.out HV6.out).mono ?_
  rintro e w7 ⟨rfl, rfl⟩
  rw [decide_eq_true (rfl : l = l)]
  go_wp2
  go_ret
  exact ⟨rfl, up6.out⟩
end Go.Proofs.Ytlomjgejdeghhaa
