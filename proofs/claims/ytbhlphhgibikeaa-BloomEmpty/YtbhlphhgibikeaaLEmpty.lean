/- The walk of BloomEmpty. -/
import Derived.Test.YtbhlphhgibikeaaBAlive
namespace Go.Proofs.Ytbhlphhgibikeaa
open Go.RowKit
set_option linter.unusedVariables false
set_option linter.unusedSimpArgs false

theorem key_nil : KeyL [] := by intro s hs; cases hs

theorem empty_len {each : Int} (he : errM each 0 = 0) : (makeR [] each).2.length = 1 ∧ ∀ h, hasF h (makeR [] each).1.toNat (makeR [] each).2.length (makeR [] each).2 = false := by
  have e : makeR [] each = (((kOf each.toNat : Nat) : Int), makeL [] (kOf each.toNat) (nOf 0 each.toNat)) := by unfold makeR; rw [if_pos (by simpa using he)]; rfl
  have en : nOf 0 each.toNat = 1 := by unfold nOf; simp
  rw [e]
  simp only [makeL_len, Int.toNat_natCast, en]
  exact ⟨trivial, fun h => empty_has h _ 1 (kOf_le _).1 (by decide)⟩

set_option maxHeartbeats 1000000 in
theorem empty_walk (each : Int) (key : List Int) (hx : OctL key) (hm : key.length ≤ 140737488355328) (w : World) :
    Calls Try.prog 7 #[.int .i64 each, .string (strOfNums key)] w fun e w' => e = .returned (.bool true) ∧ Below w.heap.size w w' := by
  have HA : Hid (∀ w : World, Calls Try.prog 20 #[] w fun e w' => e = .returned (.bool true) ∧ Hid (Below w.heap.size w w')) := fun w => alive_any w
  have HM : Hid (∀ w : World, Calls Try.prog 11 #[.slice none 0 0, .int .i64 each] w fun e w' => ∃ a n c, e = .returned (.tuple #[.agg #[.int .i64 (makeR [] each).1, .slice a n c], .int .i64 (errM each 0)]) ∧ Hid (n = (makeR [] each).2.length) ∧ Hid (OwnB w' w.heap.size (.slice a n c) (makeR [] each).2) ∧ Hid (Below w.heap.size w w')) := fun w => make_any [] key_nil each _ w (Rws.nil 1 w)
  have HN : Hid (∀ (x : Int) (w : World), Calls Try.prog 18 #[.int .i64 x] w fun e w' => e = .returned (.int .i64 x) ∧ w' = w) := fun x w => num_any x w
  by_cases he : errM each 0 = 0
  · have hel := empty_len he
    have hmay := (make_may (keys := []) (each := each) (by simpa using he)).1
    have HO := makeR_oct [] each
    rw [he] at HM
    generalize (makeR [] each).1 = K at *
    generalize (makeR [] each).2 = l at *
    have HHAS : Hid (∀ (a : Option Addr) (n c : Nat) (W : World), n = l.length → Octs W (.slice a n c) l → Calls Try.prog 13 #[.agg #[.int .i64 K, .slice a n c], .string (strOfNums key)] W fun e w' => e = .returned (.tuple #[.bool false, .int .i64 0]) ∧ Hid (Below W.heap.size W w')) := by
      rintro a n c W rfl hv
      have h := has_any key hx hm K l a c W hv
      have hc : chkE K l.length = 0 := by unfold chkE; rw [if_pos hmay]
      rw [hc, hmay, hel.2] at h
      exact h
    have HL : Hid (l.length = 1) := hel.1
    have HOO : Hid (OctL l) := HO
    clear hel hmay HO he
    go_enter Try.func7, Try.ntmps7
    go_wp2_with fail
    refine (HA.out _).mono ?_
    rintro e w1 ⟨rfl, b1⟩
    go_wp2_with fail
    refine (HM.out _).mono ?_
    rintro e w2 ⟨a, n, c, rfl, hn, ho, b2⟩
    obtain rfl : n = 1 := by rw [hn.out]; exact HL.out
    have B2 : Hid (Below w.heap.size w w2) := up_trans b1.out b2.out
    go_wp2_with fail
    refine (HN.out _ _).mono ?_
    rintro e w3 ⟨rfl, rfl⟩
    have HO3 : Hid (Octs (w2.alloc (.cells #[.int .i64 K, .slice a 1 c] 27)) (.slice a 1 c) l) := (Octs.own ho.out HOO.out).up (up_alloc _ _)
    have HC : Hid ((w2.alloc (.cells #[.int .i64 K, .slice a 1 c] 27)).heap[w2.heap.size]? = some (.cells #[.int .i64 K, .slice a 1 c] 27)) := blk_new _ _
    go_wp2_with fail
    refine (HHAS.out a 1 c _ hn.out HO3.out).mono ?_
    rintro e w4 ⟨rfl, b4⟩
    have q1 := blk_cell (blk_up HC.out b4.out) 1 _ rfl
    have B4 : Hid (Below w.heap.size w w4) := up_trans (up_al B2.out _) b4.out
    clear HO3 HC b4 B2 b2 ho
    go_wp2_with fail
    refine (HN.out _ _).mono ?_
    rintro e w3 ⟨rfl, rfl⟩
    go_wp2
    go_ret
    exact ⟨rfl, B4.out⟩
  · have hb : each < 1 ∨ 16 < each := by
      unfold errM at he
      by_cases h : each < 1 ∨ 16 < each
      · exact h
      · rw [if_neg h] at he
        simp at he
    have he4 : errM each 0 = 4 := by unfold errM; rw [if_pos hb]
    rw [he4] at HM
    clear he he4
    rcases hb with hb | hb
    · go_enter Try.func7, Try.ntmps7
      go_wp2_with fail
      refine (HA.out _).mono ?_
      rintro e w1 ⟨rfl, b1⟩
      go_wp2_with fail
      refine (HM.out _).mono ?_
      rintro e w2 ⟨a, n, c, rfl, hn, ho, b2⟩
      have B2 : Hid (Below w.heap.size w w2) := up_trans b1.out b2.out
      go_wp2_with fail
      refine (HN.out _ _).mono ?_
      rintro e w3 ⟨rfl, rfl⟩
      go_wp2
      go_ret
      exact ⟨rfl, up_al B2.out _⟩
    · have hb' : ¬ each < 1 := by omega
      go_enter Try.func7, Try.ntmps7
      go_wp2_with fail
      refine (HA.out _).mono ?_
      rintro e w1 ⟨rfl, b1⟩
      go_wp2_with fail
      refine (HM.out _).mono ?_
      rintro e w2 ⟨a, n, c, rfl, hn, ho, b2⟩
      have B2 : Hid (Below w.heap.size w w2) := up_trans b1.out b2.out
      go_wp2_with fail
      refine (HN.out _ _).mono ?_
      rintro e w3 ⟨rfl, rfl⟩
      go_wp2
      go_ret
      exact ⟨rfl, up_al B2.out _⟩
end Go.Proofs.Ytbhlphhgibikeaa
