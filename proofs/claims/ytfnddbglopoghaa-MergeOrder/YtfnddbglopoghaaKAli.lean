/- The law's alive of layer 13. -/
import Derived.Test.YtfnddbglopoghaaKTwi
import Derived.Test.YtfnddbglopoghaaQMrg
namespace Go.Proofs.Ytfnddbglopoghaa
open Go.RowKit
set_option linter.unusedVariables false
set_option linter.unusedSimpArgs false
set_option maxRecDepth 100000

def e1 : En := ⟨⟨#[97]⟩, 3, 2, ⟨#[]⟩⟩
def e2 : En := ⟨⟨#[97]⟩, 1, 1, ⟨#[120]⟩⟩
def f1 : En := ⟨⟨#[98]⟩, 1, 1, ⟨#[]⟩⟩
def f2 : En := ⟨⟨#[97]⟩, 2, 1, ⟨#[]⟩⟩
theorem may_e1 : mayE e1 = true := by unfold mayE e1; simp [ByteArray.toList_eq, ByteArray.size]
theorem may_e2 : mayE e2 = true := by unfold mayE e2; simp [ByteArray.toList_eq, ByteArray.size]
theorem may_f1 : mayE f1 = true := by unfold mayE f1; simp [ByteArray.toList_eq, ByteArray.size]
theorem may_f2 : mayE f2 = true := by unfold mayE f2; simp [ByteArray.toList_eq, ByteArray.size]
theorem bef_e : beforeE e1 e2 = true := by unfold beforeE e1 e2; simp [ByteArray.toList_eq, Op.bytesLess]
theorem bef_f : beforeE f2 f1 = true := by unfold beforeE f1 f2; simp [ByteArray.toList_eq, Op.bytesLess]
theorem chk_e : chkP [e1, e2] = 0 := by
  unfold chkP
  simp [may_e1, may_e2, ascB, bef_e]
theorem thin_e : thinP [e1, e2] [] = 0 ∧ thinM [e1, e2] [] true = [] := by
  have h : thinP [e1, e2] [] = 0 := by unfold thinP; simp [chk_e]
  refine ⟨h, ?_⟩
  have hg : groupsM [e1, e2] = [[e1, e2]] := by
    have := groups_cut [e1, e2] 2 (by decide) (by decide) (fun m x y hm hx hy => by
      obtain rfl : m = 0 := by omega
      simp at hx hy
      rw [← hx, ← hy]
      rfl) (fun x y _ hy => by simp at hy)
    rw [this]
    simp [groups_nil]
  unfold thinM
  rw [if_pos ((thinP_iff _ _).1 h)]
  unfold thinL
  rw [hg]
  rfl
theorem ord_one {x : En} (h : mayE x = true) : ordL [x] = 0 := (ord_iff [x]).2 ⟨fun y hy => by simp at hy; rw [hy]; exact h, List.pairwise_singleton _ _⟩
theorem merge_f : mergeP [[f1], [f2]] = 0 ∧ mergeM [[f1], [f2]] = [f2, f1] := by
  have hn : NoTw [f1, f2] := by
    unfold NoTw
    refine List.pairwise_cons.2 ⟨fun y hy => ?_, List.pairwise_singleton _ _⟩
    simp at hy
    rw [hy]
    intro t
    have := t.2
    unfold f1 f2 at this
    simp at this
  have hE : mergeE [[f1], [f2]] = 0 := (mergeE_iff _).2 ⟨by simp, by simp, fun r hr => by
    simp at hr
    rcases hr with rfl | rfl
    · exact ord_one may_f1
    · exact ord_one may_f2, by simpa using hn⟩
  refine ⟨(mergeP_iff _).2 hE, ?_⟩
  unfold mergeM
  rw [if_pos hE]
  simp [mergeL, twoM, bef_f]
theorem runs_lit (w : World) : RunsR (((w.alloc (.cells #[.string ⟨#[98]⟩, .int .i64 1, .int .i64 1, .string ⟨#[]⟩] 47)).alloc (.cells #[.string ⟨#[97]⟩, .int .i64 2, .int .i64 1, .string ⟨#[]⟩] 47)).alloc (.cells #[.slice (some ⟨w.heap.size, 0, none⟩) 1 1, .slice (some ⟨w.heap.size + 1, 0, none⟩) 1 1] 22)) (.slice (some ⟨w.heap.size + 1 + 1, 0, none⟩) 2 2) [[f1], [f2]] := by
  have h1 : EntsR (w.alloc (.cells #[.string ⟨#[98]⟩, .int .i64 1, .int .i64 1, .string ⟨#[]⟩] 47)) (.slice (some ⟨w.heap.size, 0, none⟩) 1 1) [f1] := Rws.made (sz := 4) w 47 [enRow f1] (by simp [enRow]) (by simp [maxLen])
  have h2 : EntsR ((w.alloc (.cells #[.string ⟨#[98]⟩, .int .i64 1, .int .i64 1, .string ⟨#[]⟩] 47)).alloc (.cells #[.string ⟨#[97]⟩, .int .i64 2, .int .i64 1, .string ⟨#[]⟩] 47)) (.slice (some ⟨w.heap.size + 1, 0, none⟩) 1 1) [f2] := by
    have := Rws.made (sz := 4) (w.alloc (.cells #[.string ⟨#[98]⟩, .int .i64 1, .int .i64 1, .string ⟨#[]⟩] 47)) 47 [enRow f2] (by simp [enRow]) (by simp [maxLen])
    rw [show (w.alloc (.cells #[.string ⟨#[98]⟩, .int .i64 1, .int .i64 1, .string ⟨#[]⟩] 47)).heap.size = w.heap.size + 1 by simp] at this
    exact this
  have h3 := Rws.made (sz := 1) ((w.alloc (.cells #[.string ⟨#[98]⟩, .int .i64 1, .int .i64 1, .string ⟨#[]⟩] 47)).alloc (.cells #[.string ⟨#[97]⟩, .int .i64 2, .int .i64 1, .string ⟨#[]⟩] 47)) 22 [[.slice (some ⟨w.heap.size, 0, none⟩) 1 1], [.slice (some ⟨w.heap.size + 1, 0, none⟩) 1 1]] (by simp) (by simp [maxLen])
  rw [show ((w.alloc (.cells #[.string ⟨#[98]⟩, .int .i64 1, .int .i64 1, .string ⟨#[]⟩] 47)).alloc (.cells #[.string ⟨#[97]⟩, .int .i64 2, .int .i64 1, .string ⟨#[]⟩] 47)).heap.size = w.heap.size + 1 + 1 by simp] at h3
  refine ⟨[.slice (some ⟨w.heap.size, 0, none⟩) 1 1, .slice (some ⟨w.heap.size + 1, 0, none⟩) 1 1], h3, rfl, fun i u r hu hr => ?_⟩
  match i, hu, hr with
  | 0, hu, hr => simp at hu hr; subst hu hr; exact (h1.up (up_alloc _ _)).up (up_alloc _ _)
  | 1, hu, hr => simp at hu hr; subst hu hr; exact h2.up (up_alloc _ _)
  | k + 2, hu, hr => simp at hu
set_option maxHeartbeats 4000000 in
theorem alive_any : AliveC := by
  intro w
  have E0 : EntsR (w.alloc (.cells #[.string ⟨#[97]⟩, .int .i64 3, .int .i64 2, .string ⟨#[]⟩, .string ⟨#[97]⟩, .int .i64 1, .int .i64 1, .string ⟨#[120]⟩] 47)) (.slice (some ⟨w.heap.size, 0, none⟩) 2 2) [e1, e2] := Rws.made (sz := 4) w 47 [enRow e1, enRow e2] (by simp [enRow]) (by simp [maxLen])
  have HT := hid (thin_any [e1, e2] [] true _ 2 2 none 0 0 _ E0 (Rws.nil _ _) (by simp))
  rw [thin_e.1, thin_e.2] at HT
  have HM : Hid (∀ w1 : World, Calls Try.prog 20 #[.slice (some ⟨w1.heap.size + 1 + 1, 0, none⟩) 2 2] (((w1.alloc (.cells #[.string ⟨#[98]⟩, .int .i64 1, .int .i64 1, .string ⟨#[]⟩] 47)).alloc (.cells #[.string ⟨#[97]⟩, .int .i64 2, .int .i64 1, .string ⟨#[]⟩] 47)).alloc (.cells #[.slice (some ⟨w1.heap.size, 0, none⟩) 1 1, .slice (some ⟨w1.heap.size + 1, 0, none⟩) 1 1] 22)) fun e w' => ∃ b off c, e = .returned (.tuple #[.slice (some ⟨b, off, none⟩) 2 c, .int .i64 0]) ∧ w'.cell? ⟨b, off, none⟩ = some (.string ⟨#[97]⟩) ∧ Hid (Below w1.heap.size w1 w')) := by
    intro w1
    have h := merge_any [[f1], [f2]] _ 2 2 _ (runs_lit w1) (fun r hr => by simp at hr; rcases hr with rfl | rfl <;> simp)
    rw [merge_f.1, merge_f.2] at h
    refine h.mono ?_
    rintro e w' ⟨a, n, c, rfl, hE, hb⟩
    obtain ⟨b, off, cap, x, e, hx, c0, _⟩ := hE.out.at 0 (by simp)
    simp only [Value.slice.injEq] at e
    obtain ⟨rfl, rfl, rfl⟩ := e
    simp at hx
    subst hx
    exact ⟨b, off, c, rfl, by simpa [f2] using c0, up_trans (up_al (up_al (up_alloc _ _) _) _) hb.out⟩
  have U0 : Hid (∀ o, Below w.heap.size w (w.alloc o)) := fun o => up_alloc _ _
  have HN := hid mnum_any
  clear E0
  go_enter Try.func17, Try.ntmps17
  go_wp2_with fail
  refine HT.out.mono ?_
  rintro e w1 ⟨a1, n1, c1, rfl, E1, u1⟩
  obtain ⟨a9, c9, e9, _⟩ := E1.out.len
  simp only [Value.slice.injEq, List.length_nil] at e9
  obtain ⟨rfl, hn1, rfl⟩ := e9
  subst hn1
  go_wp2_with fail
  refine (HM.out w1).mono ?_
  rintro e w2 ⟨b, off, c, rfl, c0, u2⟩
  go_wp2_with fail
  refine (HN.out 0 _).mono ?_
  rintro e wx ⟨rfl, rfl⟩
  go_wp2_with fail
  refine (HN.out 0 _).mono ?_
  rintro e wx ⟨rfl, rfl⟩
  go_wp2_with fail
  go_ret
  exact ⟨rfl, up_trans (up_trans (U0.out _) u1.out) u2.out⟩
end Go.Proofs.Ytfnddbglopoghaa
