/- The function that hands out the records of octets: it calls yield with each record that Get takes, in order, and ends. -/
import Derived.RangeFuncNested
import Derived.RangeFuncBound
import Derived.RangeFuncCalls
import Derived.RangeFuncLeaves
import Derived.Shelf.Abstract
import Derived.Shelf.RegionOpen
import Derived.OwnWalkIn
import Derived.TacticsInMore
import Derived.LoopNIn
import Derived.LoopIn
import Derived.Test.YtgkgellmeeljbaaFScanM
namespace Go.Proofs.Ytgkgellmeeljbaa
open Go.RowKit Go.Shelf SumPlain
set_option linter.unusedVariables false
attribute [local go_sem] Oper.semAt_some

/-- A record as it is handed out: its slice, kind, data, how many octets. -/
abbrev Got := Value × Int × List Int × Nat
def Got.plain (x : Got) : Int × List Int × Nat := x.2

theorem cut_off {w : World} {bb o cap off : Nat} {sp : Option Nat} {b : List Int} (h : Octs w (.slice (some ⟨bb, o, sp⟩) b.length cap) b) (ho : off ≤ b.length) (hc : b.length ≤ cap) : Octs w (.slice (some ⟨bb, o + off, sp⟩) (b.length - off) (cap - off)) (b.drop off) := by
  by_cases hb : b = []
  · subst hb
    simp at ho
    subst ho
    simp
    exact ⟨by simp, .inl ⟨rfl, _, _, rfl, fun h => by cases h⟩⟩
  · have hsp : sp = none := by
      rcases h.2 with ⟨e, _⟩ | ⟨_, b', off', cap', e, _⟩
      · exact absurd e hb
      · simp at e
        exact e.1.2.2
    subst hsp
    exact h.back rfl off ho hc

set_option maxHeartbeats 2000000 in
theorem recs_in (m l Bn n₀ : Nat) (b : List Int) (a : Option Addr) (cap : Nat) (J : List Got → World → Prop)
    (W : World) (hg : ∀ pre W W', J pre W → W.grownBy W' none → J pre W')
    (hY : ∀ (pre : List Got) (a' : Option Addr) (n' c' : Nat) (k : Int) (d : List Int) (n : Nat) (e : Int) (W0 W1 : World), J pre W0 → Below W0.heap.size W0 W1 → n' = d.length → NewB W1 W0.heap.size (.slice a' n' c') d → e = ((lenOf (pre.map (·.2)) + n : Nat) : Int) → 6 * pre.length ≤ b.length → (lenOf (pre.map (·.2)) + n) ≤ b.length →
      YieldAt Fence.wide (m - 1) Try.prog l #[.agg #[.int .i64 k, .slice a' n' c'], .int .i64 e] W1 fun e' W' => e' = .returned (.bool true) ∧ J (pre ++ [(.slice a' n' c', k, d, n)]) W')
    (hK : ∀ pre W', J pre W' → Below n₀ W W' ∧ W'.cell? ⟨Bn, 0, none⟩ = some (.slice a b.length cap))
    (hv : Octs W (.slice a b.length cap) b) (hlow : ∀ g, (Value.slice a b.length cap).ownBlock = some g → b ≠ [] → g < n₀) (h0 : J [] W) :
    CallsIn Fence.wide m Try.prog 41 #[.func (.yield l) #[] #[], .pointer (some ⟨Bn, 0, none⟩)] W fun e W' => (∃ v, e = .returned v) ∧ ∃ xs, xs.map (·.2) = scanOf b ∧ J xs W' := by
  refine callsIn_of_wp Try.func41 rfl trivial ?_ rfl
  simp only [Try.ntmps41, List.size_toArray, List.length_cons, List.length_nil, Nat.reduceAdd, Nat.reduceSub, Array.replicate_succ, Array.replicate_zero, List.push_toArray, List.append_toArray, List.nil_append, List.cons_append]
  gi_wp2
  gi_loopw [3] (fun p wr => ∃ (xs : List Got) (off f : Nat), p = .int .i64 (off : Int) ∧ Hid (ScanAt b (xs.map (·.2)) off f) ∧ Hid (J xs wr)) (fun p wr => b.length - (intOf p).toNat)
  case atStart => exact ⟨[], 0, b.length + 1, rfl, ScanAt.start b, h0⟩
  case round =>
    obtain ⟨xs, off, f, rfl, hs, hj⟩ := hrel
    obtain ⟨hb, hB2⟩ := hK _ _ hj.out
    replace hb : Hid (Below n₀ W wr) := hb
    obtain ⟨hs1, hs2, hs3, hs4⟩ := hs.out
    have hv2 : Octs wr (.slice a b.length cap) b := hv.moved (fun g o x hne hg hc => by rw [hb.out.cell (hlow g hg hne)]; exact hc)
    have HG : ∀ v', Octs wr v' (b.drop off) → Hid (∀ mm, CallsIn Fence.wide mm Try.prog 12 #[v'] wr fun e w' => ∃ a' n' c', e = .returned (.tuple #[.agg #[.int .i64 (fget (b.drop off)).1, .slice a' n' c'], .int .i64 (fget (b.drop off)).2.2.1, .int .i64 (fget (b.drop off)).2.2.2]) ∧ Hid (n' = (fget (b.drop off)).2.1.length) ∧ Hid (NewB w' wr.heap.size (.slice a' n' c') (fget (b.drop off)).2.1) ∧ Hid (Below wr.heap.size wr w')) := by
      intro v' hv' mm
      refine callsIn_wide.2 ((fget_any _ _ _ hv').mono ?_)
      rintro e w' ⟨vd, rfl, hn, hbw⟩
      obtain ⟨a', c', rfl, _, _⟩ := hn.1.len
      exact ⟨a', _, c', rfl, rfl, hn, hbw⟩
    obtain ⟨e0, he0⟩ : ∃ e0, e0 = (fget (b.drop off)).2.2.2 := ⟨_, rfl⟩
    obtain ⟨k0, hk0⟩ : ∃ k0, k0 = (fget (b.drop off)).1 := ⟨_, rfl⟩
    obtain ⟨d0, hd0⟩ : ∃ d0, d0 = (fget (b.drop off)).2.1 := ⟨_, rfl⟩
    obtain ⟨z0, hz0⟩ : ∃ z0, z0 = (fget (b.drop off)).2.2.1 := ⟨_, rfl⟩
    rw [← he0, ← hk0, ← hd0, ← hz0] at HG
    have HE : Hid (e0 = (fget (b.drop off)).2.2.2 ∧ k0 = (fget (b.drop off)).1 ∧ d0 = (fget (b.drop off)).2.1 ∧ z0 = (fget (b.drop off)).2.2.1) := ⟨he0, hk0, hd0, hz0⟩
    clear he0 hk0 hd0 hz0
    have fin : ∀ v', Octs wr v' (b.drop off) → True := fun _ _ => trivial
    have hcap : b.length ≤ cap := by
      obtain ⟨a2, c2, e2, h2, _⟩ := hv.len
      simp at e2
      omega
    have hG : ∃ G : Hid True, True := ⟨trivial, trivial⟩
    clear hG fin
    by_cases he : e0 = 0
    · subst he
      have hok : (fget (b.drop off)).2.2.2 = 0 := HE.out.1.symm
      obtain ⟨n, hzn, h6, hnl, _⟩ := fget_ok (b.drop off) (fun x hx => hv.1 x (List.mem_of_mem_drop hx)) hok
      rw [List.length_drop] at hnl
      obtain ⟨hnext, _, _⟩ := hs.out.goes hv.1 hok hzn
      have hz : z0 = (n : Int) := by rw [HE.out.2.2.2]; exact hzn
      subst hz
      rw [← HE.out.2.1, ← HE.out.2.2.1] at hnext
      have HN : Hid (ScanAt b (xs.map (·.2) ++ [(k0, d0, n)]) (off + n) (f - 1)) := hnext
      have hlen : 6 * xs.length ≤ b.length := by
        have h1 := (scanF_len (b.length + 1) b hv.1).2
        have h2 : (scanOf b).length = xs.length + (scanF f (b.drop off)).length := by rw [hs1]; simp
        unfold scanOf at h2
        omega
      have KEY : ∀ (w' : World) (a' : Option Addr) (n' c' : Nat), Hid (n' = d0.length) → Hid (NewB w' wr.heap.size (.slice a' n' c') d0) → Hid (Below wr.heap.size wr w') →
          YieldAt Fence.wide (m - 1) Try.prog l #[.agg #[.int .i64 k0, .slice a' n' c'], .int .i64 ((off : Int) + (n : Int))] (w'.alloc (.cells #[.int .i64 k0, .slice a' n' c'] 25)) fun e' W' => e' = .returned (.bool true) ∧ Hid (J (xs ++ [(.slice a' n' c', k0, d0, n)]) W') := by
        intro w' a' n' c' h1 h2 h3
        have u1 : Below wr.heap.size wr (w'.alloc (.cells #[.int .i64 k0, .slice a' n' c'] 25)) := up_al h3.out _
        refine (hY xs a' n' c' k0 d0 n ((off : Int) + (n : Int)) wr _ hj.out u1 h1.out (h2.out.up (up_alloc _ _)) (by rw [hs2]; omega) hlen (by rw [hs2]; omega)).mono ?_
        rintro e' W' ⟨rfl, q1⟩
        exact ⟨rfl, q1⟩
      cases a with
      | none =>
        exfalso
        rcases hv.2 with ⟨e, _⟩ | ⟨_, b', off', cap', e, _⟩
        · subst e; simp at hnl; omega
        · simp at e
      | some x =>
        obtain ⟨bb, o, sp⟩ := x
        obtain rfl : sp = none := by
          rcases hv.2 with ⟨e, _⟩ | ⟨_, b', off', cap', e, _⟩
          · subst e; simp at hnl; omega
          · simp at e; exact e.1.2.2
        have hcut := cut_off hv2 hs3 hcap
        have G := HG _ hcut
        have hoff : off < cap := by omega
        have hoff' : (off : Int) < (cap : Int) := by omega
        have hs3' : (off : Int) ≤ (b.length : Int) := by omega
        have hb64 : Hid (cap ≤ maxLen) := by
          unfold Hid
          rcases hv.2 with ⟨e, _⟩ | ⟨_, b', off', cap', e, _, hm, _⟩
          · subst e; simp at hnl; omega
          · simp at e; omega
        have hb65 : cap ≤ 9223372036854775807 := hb64.out
        have hon : (off : Int) + (n : Int) ≤ 9223372036854775807 := by omega
        clear HG hcut hv2 hY hK hs1 hs2 hs4 hzn hok hnext hlen
        gi_wp2
        refine ⟨trivial, fun h => (by cases h), ?_⟩
        refine (G.out _).mono ?_
        rintro e w' ⟨a', n', c', rfl, hn', hnb, hbw⟩
        obtain ⟨fn, tmps, asg, bod, hy, hR⟩ := KEY w' a' n' c' hn' hnb hbw
        gi_wp2
        refine ⟨fun h => (by cases h), hR.mono ?_⟩
        rintro e W3 ⟨rfl, hJ3⟩
        gi_wp2
        refine ⟨⟨xs ++ [(.slice a' n' c', k0, d0, n)], off + n, f - 1, by simp, ?_, hJ3⟩, ?_⟩
        · have := HN.out
          unfold Hid
          rw [List.map_append]
          exact this
        · simp [intOf]
          omega
    · have he' : (e0 == 0) = false := by simp [he]
      have HD : Hid (scanOf b = xs.map (·.2)) := (hs.out.ends (by rw [← HE.out.1]; exact he)).1
      clear hY hK hs1 hs2 hs4
      have key : ∀ (v' : Value) (w' : World), Below wr.heap.size wr w' → Hid (∀ o : Obj, J xs (w'.alloc o)) := by
        intro v' w' hbw o
        have h2 : Below wr.heap.size wr (w'.alloc o) := up_al hbw o
        exact hg _ _ _ hj.out (grown_up h2 none)
      cases a with
      | none =>
        obtain ⟨hb0, hc0⟩ : b = [] ∧ cap = 0 := by
          rcases hv.2 with ⟨e, a2, c2, e2, h2⟩ | ⟨_, b', off', cap', e, _⟩
          · simp at e2
            exact ⟨e, by rw [e2.2.2]; exact h2 e2.1.symm⟩
          · simp at e
        subst hb0 hc0
        have ho0 : off = 0 := by simpa using hs3
        subst ho0
        have G := HG (.slice none 0 0) (by simpa using hv2)
        simp only [List.length_nil] at hB2 hs3
        clear HG hv2
        gi_wp2
        refine ⟨trivial, fun h => (by cases h), ?_⟩
        refine (G.out _).mono ?_
        rintro e w' ⟨a', n', c', rfl, hn', hnb, hbw⟩
        gi_wp2
        refine bodyPost_ret (results_none rfl _ _ _) rfl ?_
        exact ⟨⟨_, rfl⟩, xs, HD.out.symm, (key (.slice none 0 0) _ hbw.out).out _⟩
      | some x =>
        obtain ⟨bb, o, sp⟩ := x
        by_cases hbn : b = []
        · subst hbn
          have ho0 : off = 0 := by simpa using hs3
          subst ho0
          simp only [List.length_nil] at hB2 hs3
          have nilO : ∀ (x : Addr) (c : Nat), Octs wr (.slice (some x) 0 c) (List.drop 0 []) := fun x c => ⟨by simp, .inl ⟨rfl, _, _, rfl, fun h => by cases h⟩⟩
          by_cases hc0 : cap = 0
          · subst hc0
            have G := HG (.slice (some ⟨bb, o, sp⟩) 0 0) (nilO _ _)
            clear HG hv2
            gi_wp2
            refine ⟨trivial, fun h => (by cases h), ?_⟩
            refine (G.out _).mono ?_
            rintro e w' ⟨a', n', c', rfl, hn', hnb, hbw⟩
            gi_wp2
            refine bodyPost_ret (results_none rfl _ _ _) rfl ?_
            exact ⟨⟨_, rfl⟩, xs, HD.out.symm, (key (.slice none 0 0) _ hbw.out).out _⟩
          · have G := HG (.slice (some ((⟨bb, o, sp⟩ : Addr).add 0)) 0 cap) (nilO _ _)
            have hc1 : 0 < cap := by omega
            clear HG hv2
            gi_wp2
            refine ⟨trivial, fun h => (by cases h), ?_⟩
            refine (G.out _).mono ?_
            rintro e w' ⟨a', n', c', rfl, hn', hnb, hbw⟩
            gi_wp2
            refine bodyPost_ret (results_none rfl _ _ _) rfl ?_
            exact ⟨⟨_, rfl⟩, xs, HD.out.symm, (key (.slice none 0 0) _ hbw.out).out _⟩
        · obtain rfl : sp = none := by
            rcases hv.2 with ⟨e, _⟩ | ⟨_, b', off', cap', e, _⟩
            · exact absurd e hbn
            · simp at e; exact e.1.2.2
          have hcut := cut_off hv2 hs3 hcap
          by_cases hoff : off < cap
          · have G := HG _ hcut
            have hoff' : (off : Int) < (cap : Int) := by omega
            have hs3' : (off : Int) ≤ (b.length : Int) := by omega
            clear HG hcut hv2
            gi_wp2
            refine ⟨trivial, fun h => (by cases h), ?_⟩
            refine (G.out _).mono ?_
            rintro e w' ⟨a', n', c', rfl, hn', hnb, hbw⟩
            gi_wp2
            refine bodyPost_ret (results_none rfl _ _ _) rfl ?_
            exact ⟨⟨_, rfl⟩, xs, HD.out.symm, (key (.slice none 0 0) _ hbw.out).out _⟩
          · have hoc : off = cap := by omega
            have hob : b.length = off := by omega
            have G := HG (.slice (some ⟨bb, o, none⟩) 0 0) (by rw [List.drop_eq_nil_iff.2 (by omega)]; exact ⟨by simp, .inl ⟨rfl, _, _, rfl, fun h => by cases h⟩⟩)
            clear HG hcut hv2
            rw [hob] at hB2 hs3
            subst hoc
            clear hob hoff
            gi_wp2
            refine ⟨trivial, fun h => (by cases h), ?_⟩
            refine (G.out _).mono ?_
            rintro e w' ⟨a', n', c', rfl, hn', hnb, hbw⟩
            gi_wp2
            refine bodyPost_ret (results_none rfl _ _ _) rfl ?_
            exact ⟨⟨_, rfl⟩, xs, HD.out.symm, (key (.slice none 0 0) _ hbw.out).out _⟩
end Go.Proofs.Ytgkgellmeeljbaa
