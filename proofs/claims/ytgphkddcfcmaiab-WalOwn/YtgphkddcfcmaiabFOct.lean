/- Octets spoiled; what lies in another block is as it was. -/
import Derived.Test.YtgphkddcfcmaiabFGet
namespace Go.Proofs.Ytgphkddcfcmaiab
open Go.RowKit SumPlain
set_option linter.unusedVariables false

theorem xor_u8 (a b : Int) : 0 ≤ bits .xor .u8 a b ∧ bits .xor .u8 a b ≤ 255 := by
  show 0 ≤ IntKind.u8.wrap _ ∧ IntKind.u8.wrap _ ≤ 255
  rw [IntKind.wrap_u8']
  omega

set_option maxHeartbeats 1000000 in
theorem spoil_any (l : List Int) (v : Value) (w : World) (base : Nat) (hv : OwnB w base v l) (hx : ∀ x ∈ l, 0 ≤ x ∧ x ≤ 255) (hl : l.length ≤ 140737488355328) :
    Calls Try.prog 9 #[v] w fun e w' => (∃ u, e = .returned u) ∧ w.grownBy w' v.ownBlock := by
  obtain ⟨a, cap, rfl, hcap⟩ := own_len hv
  obtain ⟨n, hn⟩ : ∃ n, n = l.length := ⟨_, rfl⟩
  have HV : Hid (OwnB w base (.slice a n cap) l ∧ l.length = n ∧ ∀ x ∈ l, 0 ≤ x ∧ x ≤ 255) := by subst hn; exact ⟨hv, rfl, hx⟩
  rw [← hn] at hcap hl ⊢
  clear hv hn hx
  go_enter Try.func9, Try.ntmps9
  go_wp2
  go_loopw [2] (fun i wr => ∃ (k : Nat) (l' : List Int), k ≤ n ∧ i = .int .i64 k ∧ Hid (OwnB wr base (.slice a n cap) l' ∧ l'.length = n ∧ ∀ x ∈ l', 0 ≤ x ∧ x ≤ 255) ∧ Hid (w.grownBy wr (Value.slice a n cap).ownBlock)) (fun i _ => n - (intOf i).toNat)
  case atStart => exact ⟨0, l, Nat.zero_le _, rfl, HV, grown_refl _ _⟩
  case round =>
    obtain ⟨k, l', hk, rfl, HO, HG⟩ := hrel
    by_cases hlt : k < n
    · have hlt' : (k : Int) < (n : Int) := by omega
      obtain ⟨ho, hn', hoct⟩ := HO.out
      obtain ⟨g, rfl⟩ : ∃ g, a = some ⟨g, 0, none⟩ := by
        obtain ⟨_, h⟩ := ho
        rcases h with ⟨e, h0⟩ | ⟨g, c2, cur, e, _⟩
        · rw [hn'] at h0
          omega
        · simp at e
          exact ⟨g, e.1⟩
      unfold OwnB at ho
      rw [hn'] at ho
      have hc0 := ho.cellAt k (by omega)
      have hf0 := ho.frozenAt k
      obtain ⟨y, hy⟩ : ∃ y, l'[k]? = some y := ⟨_, List.getElem?_eq_getElem (by omega)⟩
      rw [List.getElem?_map, hy] at hc0
      simp only [Option.map_some] at hc0
      obtain ⟨y0, y1⟩ := hoct y (List.mem_of_getElem? hy)
      have HSt : Hid (∀ z : Int, OwnB (wr.setCell ⟨g, k, none⟩ (.int .u8 z)) base (.slice (some ⟨g, 0, none⟩) n cap) (l'.set k z) ∧ wr.grownBy (wr.setCell ⟨g, k, none⟩ (.int .u8 z)) (some g)) := by
        intro z
        have hst := ho.stored k (.int .u8 z)
        refine ⟨?_, hst.2⟩
        unfold OwnB
        rw [List.length_set, hn', List.map_set]
        exact hst.1
      have HOct : Hid (∀ z : Int, 0 ≤ z ∧ z ≤ 255 → ∀ x ∈ l'.set k z, 0 ≤ x ∧ x ≤ 255) := by
        intro z hz x hx
        rcases List.mem_or_eq_of_mem_set hx with h1 | h1
        · exact hoct x h1
        · rw [h1]; exact hz
      clear ho hoct
      go_wp2
      exact ⟨⟨k + 1, l'.set k _, by omega, by go_num, ⟨(HSt.out _).1, by rw [List.length_set]; exact hn', HOct.out _ (xor_u8 _ _)⟩, grown_trans HG.out (HSt.out _).2⟩, by simp [intOf]; omega⟩
    · have hlt' : ¬ (k : Int) < (n : Int) := by omega
      go_wp2
      go_end0
      exact ⟨⟨_, rfl⟩, HG.out⟩

/-- What lies in another block is as it was. -/
theorem Octs.far {w w' : World} {v : Value} {l : List Int} {r : Option Nat} (h : Octs w v l) (hg : w.grownBy w' r) (hne : ∀ b, v.ownBlock = some b → l ≠ [] → some b ≠ r) : Octs w' v l :=
  h.moved fun b off x hn hv hc => hg.cell hc (hne b hv hn)

theorem Octs.lt {w : World} {v : Value} {l : List Int} (h : Octs w v l) (b : Nat) (hb : v.ownBlock = some b) (hn : l ≠ []) : b < w.heap.size := by
  obtain ⟨_, h⟩ := h
  rcases h with ⟨h0, _⟩ | ⟨_, b', off, cap, rfl, _, _, hj⟩
  · exact absurd h0 hn
  · simp [Value.ownBlock] at hb
    subst hb
    cases l with
    | nil => exact absurd rfl hn
    | cons x r => exact World.block_lt_of_cell? w ⟨b', off + 0, none⟩ (hj 0 x rfl)

end Go.Proofs.Ytgphkddcfcmaiab
