/- The law's num, SamePairs, and MergeTwice's walk upon what alive answers. -/
import Derived.Test.YtfnddbglopoghaaQThn
namespace Go.Proofs.Ytfnddbglopoghaa
open Go.RowKit
set_option linter.unusedVariables false
set_option linter.unusedSimpArgs false
set_option maxRecDepth 100000

theorem mnum_any (x : Int) (w : World) : Calls Try.prog 13 #[.int .i64 x] w fun e w' => e = .returned (.int .i64 x) ∧ w' = w := by
  go_enter Try.func13, Try.ntmps13
  go_wp2
  go_ret
  exact ⟨rfl, rfl⟩
/-- What is wanted of alive. -/
def AliveC : Prop := ∀ w : World, Calls Try.prog 17 #[] w fun e w' => e = .returned (.bool true) ∧ Hid (Below w.heap.size w w')
theorem thinM_len (l : List En) (snaps : List Int) (bot : Bool) : (thinM l snaps bot).length ≤ l.length := by
  unfold thinM
  split
  · rename_i h
    have h1 : ordL l = 0 := by
      unfold thinE at h
      by_cases q : ordL l = 0
      · exact q
      · rw [if_pos q] at h; exact absurd h q
    rw [← oneT_eq ((ord_iff l).1 h1).2]
    have := oneT_sum (tagsL l snaps (groupsM l).length) bot (groupsM l)
    rw [groups_join] at this
    exact this
  · simp
set_option maxHeartbeats 4000000 in
theorem twice_walk (HAL : AliveC) (l : List En) (snaps : List Int) (bot : Bool) (a : Option Addr) (n c : Nat) (sa : Option Addr) (sn sc : Nat) (w : World) (hv : EntsR w (.slice a n c) l) (hi : IntsR w (.slice sa sn sc) snaps) (hl : l.length ≤ 2932031007402) :
    Calls Try.prog 5 #[.slice a n c, .slice sa sn sc, .bool bot] w fun e w' => e = .returned (.bool true) ∧ Below w.heap.size w w' := by
  have HV := hid hv
  have HI := hid hi
  have HA := hid HAL
  have HN := hid mnum_any
  clear hv hi HAL
  go_enter Try.func5, Try.ntmps5
  go_wp2_with fail
  refine (HA.out _).mono ?_
  rintro e w1 ⟨rfl, u1⟩
  have HT := hid (thin_any l snaps bot a n c sa sn sc w1 (HV.out.up u1.out) (HI.out.up u1.out) hl)
  go_wp2_with fail
  refine HT.out.mono ?_
  rintro e w2 ⟨a2, n2, c2, rfl, E2, u2⟩
  have U2 : Hid (Below w.heap.size w w2) := up_trans u1.out u2.out
  clear HT u1 u2
  by_cases h0 : thinP l snaps = 0
  · have hE : thinE l snaps = 0 := (thinP_iff l snaps).1 h0
    have HTM : Hid (thinM l snaps bot = thinL l snaps bot) := by unfold Hid thinM; rw [if_pos hE]
    have HO : ordL l = 0 := by
      unfold thinE at hE
      by_cases q : ordL l = 0
      · exact q
      · rw [if_pos q] at hE; exact absurd hE q
    have HAS := ((ord_iff l).1 HO).2
    have HO2 : ordL (thinL l snaps bot) = 0 := ord_sub HO (thin_sub l snaps bot)
    have HE2 : thinE (thinL l snaps bot) snaps = 0 := by
      unfold thinE at hE ⊢
      rw [if_neg (by simpa using HO)] at hE
      rw [if_neg (by simpa using HO2)]
      exact hE
    have HP2 : Hid (thinP (thinM l snaps bot) snaps = 0) := by unfold Hid; rw [HTM.out]; exact (thinP_iff _ _).2 HE2
    have HM2 : Hid (thinM (thinM l snaps bot) snaps bot = thinM l snaps bot) := by
      unfold Hid
      rw [HTM.out]
      unfold thinM
      rw [if_pos HE2]
      exact thin_twice HAS snaps bot
    have HT2 := hid (thin_any (thinM l snaps bot) snaps bot a2 n2 c2 sa sn sc w2 E2.out (HI.out.up U2.out) (Nat.le_trans (thinM_len l snaps bot) hl))
    rw [HP2.out, HM2.out] at HT2
    rw [h0]
    clear h0 hE HO HO2 HE2 HAS
    go_wp2_with fail
    refine (HN.out 0 _).mono ?_
    rintro e wx ⟨rfl, rfl⟩
    go_wp2_with fail
    refine HT2.out.mono ?_
    rintro e w3 ⟨a3, n3, c3, rfl, E3, u3⟩
    have HS := hid (sameEnts_self (thinM l snaps bot) (.slice a3 n3 c3) (.slice a2 n2 c2) w3 E3.out (E2.out.up u3.out))
    go_wp2_with fail
    refine (HN.out 0 _).mono ?_
    rintro e wx ⟨rfl, rfl⟩
    go_wp2_with fail
    refine HS.out.mono ?_
    rintro e wx ⟨rfl, d, rfl⟩
    go_wp2_with fail
    go_ret
    exact ⟨rfl, up_trans (up_trans U2.out u3.out) (up_drewN _ _)⟩
  · have HTM : Hid (thinM l snaps bot = []) := by unfold Hid thinM; rw [if_neg (fun q => h0 ((thinP_iff l snaps).2 q))]
    rw [HTM.out] at E2
    obtain ⟨a9, c9, e9, _⟩ := E2.out.len
    simp only [Value.slice.injEq] at e9
    obtain ⟨rfl, hn2, rfl⟩ := e9
    simp only [List.length_nil] at hn2
    subst hn2
    have hb1 : (thinP l snaps != 0) = true := by simp [h0]
    have hb2 : (thinP l snaps = 0) = False := by simp [h0]
    clear h0
    go_wp2_with fail
    refine (HN.out _ _).mono ?_
    rintro e wx ⟨rfl, rfl⟩
    go_wp2_with fail
    go_ret
    exact ⟨rfl, U2.out⟩
end Go.Proofs.Ytfnddbglopoghaa
