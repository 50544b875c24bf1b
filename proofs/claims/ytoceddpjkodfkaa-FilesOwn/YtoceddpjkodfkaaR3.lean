/- cut: what a crash leaves of a file. -/
import Derived.Test.YtoceddpjkodfkaaR2
namespace Go.Proofs.Ytoceddpjkodfkaa
open Go.RowKit
set_option linter.unusedVariables false
set_option linter.unusedSimpArgs false

/-- How many octets are left. -/
def leftN (f : Int × List Int × Int) (more : Int) : Int := f.2.2 + min (max more 0) ((f.2.1.length : Int) - f.2.2)
def cutF (f : Int × List Int × Int) (more : Int) : Int × List Int × Int := (f.1, f.2.1.take (leftN f more).toNat, leftN f more)

theorem left_le (f : Int × List Int × Int) (more : Int) (h0 : 0 ≤ f.2.2) (h1 : f.2.2 ≤ (f.2.1.length : Int)) : f.2.2 ≤ leftN f more ∧ leftN f more ≤ (f.2.1.length : Int) := by
  unfold leftN
  omega

theorem own_take {w : World} {base : Nat} {e : TypeId} {sz g n cap : Nat} {css : List (List Value)} (h : OwnR w base e sz (.slice (some ⟨g, 0, none⟩) n cap) css) (k : Nat) (hk : k ≤ n) : OwnR w base e sz (.slice (some ⟨g, 0, none⟩) k cap) (css.take k) := by
  obtain ⟨cur, hh, hb, hn, hm, hs, ht, hl⟩ := h.blk
  have hf : k * sz + ([] : List Value).length ≤ cur.size := by
    rw [hs, List.length_nil, Nat.add_zero]
    exact Nat.mul_le_mul_right _ (by omega)
  refine h.firstOver k hk cur hh [] hf ?_
  rw [over_nil]
  simpa using hh

theorem OwnB.take {w : World} {base : Nat} {a : Option Addr} {n c : Nat} {l : List Int} (h : OwnB w base (.slice a n c) l) (k : Nat) (hk : k ≤ l.length) : OwnB w base (.slice a k c) (l.take k) := by
  have hn : l.length = n := by
    rcases h.2 with ⟨e, e2⟩ | ⟨g, cap, cur, e, _⟩
    · injection e with _ e3 _
      omega
    · injection e with _ e3 _
      exact e3.symm
  rcases h.2 with ⟨e, e2⟩ | ⟨g, cap, cur, e, _⟩
  · injection e with e1 e3 e4
    have hl : l = [] := List.length_eq_zero_iff.1 e2
    have hk0 : k = 0 := by omega
    subst hl
    subst hk0
    subst e1
    subst e4
    exact OwnB.nil _ _
  · injection e with e1 e3 e4
    subst e1
    have h2 := own_take h.rows k (by omega)
    rw [← List.map_take] at h2
    exact h2.octs

theorem cellset (w : World) (a : Addr) (u : Value) {v : Value} (h : w.cell? a = some v) : (w.setCell a u).cell? a = some u := World.cell?_setCell_same (h := h) ..
theorem frozenset (w : World) (g o : Nat) (b : Addr) (u : Value) : (w.setCell ⟨g, o, none⟩ u).frozen? b = w.frozen? b := World.frozen?_setCells g [u] o w b

set_option maxHeartbeats 2000000 in
theorem cut_any (base g n c i : Nat) (m : List FRow) (more : Int) (hmo : In64 more) (w : World) (h : OwnF w base (.slice (some ⟨g, 0, none⟩) n c) m) (hn : m.length = n) (hi : i < n) (h0 : 0 ≤ (m.getD i noF).2.2.2) (h1 : (m.getD i noF).2.2.2 ≤ ((m.getD i noF).2.2.1.length : Int)) :
    Calls Try.prog 43 #[.pointer (some ⟨g, i * 3, none⟩), .int .i64 more] w fun e w' => ∃ v', e = .returned (.tuple #[]) ∧ OwnF w' base (.slice (some ⟨g, 0, none⟩) n c) (m.set i (v', cutF (m.getD i noF).2 more)) ∧ w.grownBy w' (some g) := by
  have him : i < m.length := by omega
  have hmem : m.getD i noF ∈ m := by simp [List.getD, him]
  obtain ⟨ho, hok⟩ := h.2.1 _ hmem
  obtain ⟨au, cu, eu, _⟩ := (Octs.own ho hok.1).slice
  -- the row's cells
  obtain ⟨b, off, cap, e, _, _, hc⟩ := (Rws.own h.1).at i (by rw [List.length_map]; exact him)
  rw [List.length_map] at e
  simp at e
  obtain ⟨⟨rfl, rfl⟩, _, _⟩ := e
  have hr : (m.map frow).getD i [] = frow (m.getD i noF) := by simp [List.getD, him]
  rw [hr] at hc
  have c1 := hc 1 _ rfl
  have c2 := hc 2 _ rfl
  simp only [Nat.zero_add, frow] at c1 c2
  have fz : ∀ q, w.frozen? ⟨g, q, none⟩ = false := by
    intro q
    obtain ⟨cur, hh, _⟩ := h.1.blk
    exact blk_frozen hh q
  have f1 := fz (i * 3 + 1)
  have f2 := fz (i * 3 + 2)
  have hll := left_le (m.getD i noF).2 more h0 h1
  have hdl := hok.2.1
  obtain ⟨lf, hlf⟩ : ∃ lf, lf = (leftN (m.getD i noF).2 more).toNat := ⟨_, rfl⟩
  have elf : leftN (m.getD i noF).2 more = (lf : Int) := by omega
  have hlfl : lf ≤ (m.getD i noF).2.2.1.length := by omega
  -- what it is then
  have s1 := h.sync hn i hi (lf : Int) (by unfold In64; omega)
  have HF : Hid (OwnF ((w.setCell ⟨g, i * 3 + 2, none⟩ (.int .i64 (lf : Int))).setCell ⟨g, i * 3 + 1, none⟩ (.slice au lf cu)) base (.slice (some ⟨g, 0, none⟩) n c) (m.set i (.slice au lf cu, cutF (m.getD i noF).2 more)) ∧ w.grownBy ((w.setCell ⟨g, i * 3 + 2, none⟩ (.int .i64 (lf : Int))).setCell ⟨g, i * 3 + 1, none⟩ (.slice au lf cu)) (some g)) := by
    refine ⟨?_, grown_trans (grown_set w ⟨g, i * 3 + 2, none⟩ _) (grown_set _ ⟨g, i * 3 + 1, none⟩ _)⟩
    have g1 := grown_set w ⟨g, i * 3 + 2, none⟩ (.int .i64 (lf : Int))
    have ho1 : OwnB (w.setCell ⟨g, i * 3 + 2, none⟩ (.int .i64 (lf : Int))) base (.slice au (m.getD i noF).2.2.1.length cu) (m.getD i noF).2.2.1 := by
      rw [← eu]
      exact ho.far g1 (own_own_ne ho h.1.2 (by decide))
    have hs := s1.data (by simpa using hn) i hi (ho1.take lf hlfl) (grown_refl _ _) ?_ ⟨fun x hx => hok.1 x (List.mem_of_mem_take hx), by rw [List.length_take]; omega⟩
    · have e1 : (m.set i ((m.getD i noF).1, (m.getD i noF).2.1, (m.getD i noF).2.2.1, (lf : Int))).getD i noF = ((m.getD i noF).1, (m.getD i noF).2.1, (m.getD i noF).2.2.1, (lf : Int)) := by simp [List.getD, him]
      rw [e1] at hs
      simp only [List.set_set] at hs
      have e2 : cutF (m.getD i noF).2 more = ((m.getD i noF).2.1, (m.getD i noF).2.2.1.take lf, (lf : Int)) := by
        unfold cutF
        rw [elf]
        simp
      rw [e2]
      exact hs
    · have e1 : (m.set i ((m.getD i noF).1, (m.getD i noF).2.1, (m.getD i noF).2.2.1, (lf : Int))).getD i noF = ((m.getD i noF).1, (m.getD i noF).2.1, (m.getD i noF).2.2.1, (lf : Int)) := by simp [List.getD, him]
      rw [e1]
      refine .inl ?_
      simp only
      rw [eu]
      cases au <;> rfl
  have hlv : (m.getD i noF).2.2.2 + min (max more 0) (((m.getD i noF).2.2.1.length : Int) - (m.getD i noF).2.2.2) = (lf : Int) := elf
  rw [eu] at c1
  clear s1 hc hr fz hmem ho hok h hlf eu elf hll
  generalize (m.getD i noF).2.2.1.length = dl at *
  generalize (m.getD i noF).2.2.2 = sy at *
  unfold In64 at hmo
  obtain ⟨hmo1, hmo2⟩ := hmo
  have g1 := cellset w ⟨g, i * 3 + 2, none⟩ (.int .i64 (lf : Int)) c2
  have g2 : (w.setCell ⟨g, i * 3 + 2, none⟩ (.int .i64 (lf : Int))).cell? ⟨g, i * 3 + 1, none⟩ = some (.slice au dl cu) := by
    rw [World.cell?_setCell_other (h := by intro h; injection h with _ h; omega) ..]
    exact c1
  have g3 : (w.setCell ⟨g, i * 3 + 2, none⟩ (.int .i64 (lf : Int))).frozen? ⟨g, i * 3 + 1, none⟩ = false := by
    rw [frozenset]
    exact f1
  have HE : Hid (∀ nq, OwnF (((w.drewN nq).setCell ⟨g, i * 3 + 2, none⟩ (.int .i64 (lf : Int))).setCell ⟨g, i * 3 + 1, none⟩ (.slice au lf cu)).drew base (.slice (some ⟨g, 0, none⟩) n c) (m.set i (.slice au lf cu, cutF (m.getD i noF).2 more)) ∧ w.grownBy (((w.drewN nq).setCell ⟨g, i * 3 + 2, none⟩ (.int .i64 (lf : Int))).setCell ⟨g, i * 3 + 1, none⟩ (.slice au lf cu)).drew (some g)) := by
    intro nq
    have h1 : (((w.drewN nq).setCell ⟨g, i * 3 + 2, none⟩ (.int .i64 (lf : Int))).setCell ⟨g, i * 3 + 1, none⟩ (.slice au lf cu)).drew = (((w.setCell ⟨g, i * 3 + 2, none⟩ (.int .i64 (lf : Int))).setCell ⟨g, i * 3 + 1, none⟩ (.slice au lf cu)).drewN nq).drew := rfl
    rw [h1]
    exact ⟨HF.out.1.up (up_dr (up_drewN _ _)), grown_trans HF.out.2 (grown_up (up_dr (up_drewN _ _)) _)⟩
  by_cases cA : more ≤ 0
  · have hsy : sy = (lf : Int) := by omega
    rw [hsy] at c2 h0 h1
    clear hlv HF hsy
    rcases (by omega : more < 0 ∨ more = 0) with cN | cN
    · clear cA
      go_enter Try.func43, Try.ntmps43
      go_wp2_with fail
      go_region
      all_goals
        go_wp2_with fail
        go_region
        all_goals
          go_wp2_with fail
          go_end0
          exact ⟨_, rfl, HE.out 1⟩
    · subst cN
      clear cA
      go_enter Try.func43, Try.ntmps43
      go_wp2_with fail
      go_region
      all_goals
        go_wp2_with fail
        go_region
        all_goals
          go_wp2_with fail
          go_end0
          exact ⟨_, rfl, HE.out 1⟩
  · by_cases cB : more ≤ (dl : Int) - sy
    · obtain ⟨mo, hmo⟩ : ∃ mo, mo = more := ⟨_, rfl⟩
      rw [← hmo] at HE ⊢
      have hs : sy + mo = (lf : Int) := by omega
      have cA' : ¬ mo ≤ 0 := by omega
      have cB' : mo ≤ (dl : Int) - sy := by omega
      have hmo1' : -9223372036854775808 ≤ mo := by omega
      have hmo2' : mo ≤ 9223372036854775807 := by omega
      clear hlv HF hmo cA cB hmo1 hmo2
      go_enter Try.func43, Try.ntmps43
      go_wp2_with fail
      go_region
      all_goals
        go_wp2_with fail
        go_region
        all_goals
          go_wp2_with fail
          go_end0
          exact ⟨_, rfl, HE.out 1⟩
    · obtain rfl : dl = lf := by omega
      have hs : sy + ((dl : Int) - sy) = (dl : Int) := by omega
      clear hlv HF
      go_enter Try.func43, Try.ntmps43
      go_wp2_with fail
      go_region
      all_goals
        go_wp2_with fail
        go_region
        all_goals
          go_wp2_with fail
          go_end0
          exact ⟨_, rfl, HE.out 1⟩
end Go.Proofs.Ytoceddpjkodfkaa
