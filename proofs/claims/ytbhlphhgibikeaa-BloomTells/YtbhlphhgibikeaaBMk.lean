/- Make, whatever it is given: the program's and the document's. -/
import Derived.Test.YtbhlphhgibikeaaBRefH
namespace Go.Proofs.Ytbhlphhgibikeaa
open Go.RowKit
set_option linter.unusedVariables false

def errM (each : Int) (m : Nat) : Int := if each < 1 ∨ 16 < each then 4 else if 4096 < m then 3 else 0
def makeR (keys : List (List Int)) (each : Int) : Int × List Int := if errM each keys.length = 0 then ((kOf each.toNat : Nat), makeL keys (kOf each.toNat) (nOf keys.length each.toNat)) else (0, [])

theorem putI_len (h : Int) (n : Nat) : ∀ (i : Nat) (l : List Int), (putI h n i l).length = l.length
  | 0, l => rfl
  | i + 1, l => by rw [putI_succ, putL_len, putI_len h n i l]
theorem putI_oct (h : Int) (n : Nat) : ∀ (i : Nat) (l : List Int), OctL l → OctL (putI h n i l)
  | 0, l, hl => hl
  | i + 1, l, hl => by rw [putI_succ]; exact putL_oct (putI_oct h n i l hl) _
theorem zeros_oct (n : Nat) : OctL (List.replicate n 0) := by
  intro x hx
  simp at hx
  omega
theorem make_fold (K n : Nat) : ∀ (keys : List (List Int)) (l : List Int), OctL l → l.length = n → (keys.foldl (fun l key => putI (hashL key) n K l) l).length = n ∧ OctL (keys.foldl (fun l key => putI (hashL key) n K l) l)
  | [], l, hl, hn => ⟨hn, hl⟩
  | k :: r, l, hl, hn => make_fold K n r _ (putI_oct _ _ _ _ hl) (by rw [putI_len]; exact hn)
theorem makeL_len (keys : List (List Int)) (K n : Nat) : (makeL keys K n).length = n := (make_fold K n keys _ (zeros_oct n) (by simp)).1
theorem makeL_oct (keys : List (List Int)) (K n : Nat) : OctL (makeL keys K n) := (make_fold K n keys _ (zeros_oct n) (by simp)).2
theorem makeR_oct (keys : List (List Int)) (each : Int) : OctL (makeR keys each).2 := by
  unfold makeR
  split
  · exact makeL_oct _ _ _
  · intro x hx; cases hx

set_option maxHeartbeats 1000000 in
theorem make_any (keys : List (List Int)) (hk : KeyL keys) (each : Int) (v : Value) (w : World) (hv : TextsW w v keys) :
    Calls Try.prog 11 #[v, .int .i64 each] w fun e w' => ∃ a n c, e = .returned (.tuple #[.agg #[.int .i64 (makeR keys each).1, .slice a n c], .int .i64 (errM each keys.length)]) ∧ n = (makeR keys each).2.length ∧ OwnB w' w.heap.size (.slice a n c) (makeR keys each).2 ∧ Below w.heap.size w w' := by
  by_cases c1 : each < 1 ∨ 16 < each
  · have he : errM each keys.length = 4 := by unfold errM; rw [if_pos c1]
    have hr : makeR keys each = (0, []) := by unfold makeR; rw [if_neg (by rw [he]; decide)]
    rw [he, hr]
    obtain ⟨a, c, rfl, hc, hmx⟩ := hv.len
    clear hv he hr
    go_enter Try.func11, Try.ntmps11
    rcases c1 with c1 | c1
    · go_wp2
      refine bodyPost_ret (results_fil rfl (.inl rfl) _ _ rfl (blk_new _ _)) rfl ?_
      exact ⟨none, 0, 0, rfl, rfl, OwnB.nil _ _, up_alloc _ _⟩
    · have c0 : ¬ each < 1 := by omega
      go_wp2
      refine bodyPost_ret (results_fil rfl (.inl rfl) _ _ rfl (blk_new _ _)) rfl ?_
      exact ⟨none, 0, 0, rfl, rfl, OwnB.nil _ _, up_alloc _ _⟩
  · by_cases c2 : 4096 < keys.length
    · have he : errM each keys.length = 3 := by unfold errM; rw [if_neg c1, if_pos c2]
      have hr : makeR keys each = (0, []) := by unfold makeR; rw [if_neg (by rw [he]; decide)]
      rw [he, hr]
      obtain ⟨a, c, rfl, hc, hmx⟩ := hv.len
      clear hv he hr
      have c3 : ¬ each < 1 := by omega
      have c4 : ¬ 16 < each := by omega
      have c2' : (4096 : Int) < (keys.length : Int) := by omega
      clear c1
      go_enter Try.func11, Try.ntmps11
      go_wp2
      refine bodyPost_ret (results_fil rfl (.inl rfl) _ _ rfl (blk_new _ _)) rfl ?_
      exact ⟨none, 0, 0, rfl, rfl, OwnB.nil _ _, up_alloc _ _⟩
    · have he : errM each keys.length = 0 := by unfold errM; rw [if_neg c1, if_neg c2]
      have hr : makeR keys each = (((kOf each.toNat : Nat) : Int), makeL keys (kOf each.toNat) (nOf keys.length each.toNat)) := by unfold makeR; rw [if_pos he]
      rw [he, hr]
      obtain ⟨m, rfl⟩ : ∃ m : Nat, each = (m : Int) := ⟨each.toNat, by omega⟩
      simp only [Int.toNat_natCast]
      refine (make_good keys hk (by omega) m (by omega) (by omega) v w hv).mono ?_
      rintro e w' ⟨a, c, rfl, ho, hb⟩
      exact ⟨a, _, c, rfl, by rw [makeL_len], ho, hb⟩

set_option maxHeartbeats 1000000 in
theorem refMake_any (keys : List (List Int)) (hk : KeyL keys) (each : Int) (v : Value) (w : World) (hv : TextsW w v keys) :
    Calls Try.prog 12 #[v, .int .i64 each] w fun e w' => ∃ a n c, e = .returned (.tuple #[.agg #[.int .i64 (makeR keys each).1, .slice a n c], .int .i64 (errM each keys.length)]) ∧ n = (makeR keys each).2.length ∧ OwnB w' w.heap.size (.slice a n c) (makeR keys each).2 ∧ Below w.heap.size w w' := by
  by_cases c1 : each < 1 ∨ 16 < each
  · have he : errM each keys.length = 4 := by unfold errM; rw [if_pos c1]
    have hr : makeR keys each = (0, []) := by unfold makeR; rw [if_neg (by rw [he]; decide)]
    rw [he, hr]
    obtain ⟨a, c, rfl, hc, hmx⟩ := hv.len
    clear hv he hr
    go_enter Try.func12, Try.ntmps12
    rcases c1 with c1 | c1
    · go_wp2
      refine bodyPost_ret (results_fil rfl (.inr rfl) _ _ rfl (blk_new _ _)) rfl ?_
      exact ⟨none, 0, 0, rfl, rfl, OwnB.nil _ _, up_alloc _ _⟩
    · have c0 : ¬ each < 1 := by omega
      go_wp2
      refine bodyPost_ret (results_fil rfl (.inr rfl) _ _ rfl (blk_new _ _)) rfl ?_
      exact ⟨none, 0, 0, rfl, rfl, OwnB.nil _ _, up_alloc _ _⟩
  · by_cases c2 : 4096 < keys.length
    · have he : errM each keys.length = 3 := by unfold errM; rw [if_neg c1, if_pos c2]
      have hr : makeR keys each = (0, []) := by unfold makeR; rw [if_neg (by rw [he]; decide)]
      rw [he, hr]
      obtain ⟨a, c, rfl, hc, hmx⟩ := hv.len
      clear hv he hr
      have c3 : ¬ each < 1 := by omega
      have c4 : ¬ 16 < each := by omega
      have c2' : (4096 : Int) < (keys.length : Int) := by omega
      clear c1
      go_enter Try.func12, Try.ntmps12
      go_wp2
      refine bodyPost_ret (results_fil rfl (.inr rfl) _ _ rfl (blk_new _ _)) rfl ?_
      exact ⟨none, 0, 0, rfl, rfl, OwnB.nil _ _, up_alloc _ _⟩
    · have he : errM each keys.length = 0 := by unfold errM; rw [if_neg c1, if_neg c2]
      have hr : makeR keys each = (((kOf each.toNat : Nat) : Int), makeL keys (kOf each.toNat) (nOf keys.length each.toNat)) := by unfold makeR; rw [if_pos he]
      rw [he, hr]
      obtain ⟨m, rfl⟩ : ∃ m : Nat, each = (m : Int) := ⟨each.toNat, by omega⟩
      simp only [Int.toNat_natCast]
      refine (refMake_good keys hk (by omega) m (by omega) (by omega) v w hv).mono ?_
      rintro e w' ⟨a, c, rfl, ho, hb⟩
      exact ⟨a, _, c, rfl, by rw [makeL_len], ho, hb⟩
end Go.Proofs.Ytbhlphhgibikeaa
