/- The page's example of layer 10; what the laws want of the program. -/
import Derived.Test.YtekoniaobmapdabG43
import Derived.Test.YtekoniaobmapdabG32
namespace Go.Proofs.Ytekoniaobmapdab
open Go.RowKit SumPlain
set_option linter.unusedVariables false
set_option linter.unusedSimpArgs false

def exT : En := ⟨⟨#[97]⟩, 1, 1, ⟨#[120]⟩⟩
theorem exT_chk : chkT [exT] = 0 := by
  have m1 : mayE exT = true := by simp [mayE, exT, ByteArray.size, ByteArray.toList_eq]
  unfold chkT
  rw [if_neg (by simp)]
  simp [ordE, m1, aheadE]
theorem exT_get : getT (tabO [exT]) ⟨#[97]⟩ 9 = (exT, true, 0) := by
  rw [getT_tab exT_chk]
  have : firstV [exT] ⟨#[97]⟩ 9 = (exT, true) := by simp [firstV, firstF, exT]
  rw [this]

set_option maxHeartbeats 4000000 in
set_option maxRecDepth 100000 in
theorem alive10 (w : World) : Calls Try.prog 4 #[] w fun e w' => e = .returned (.bool true) ∧ Hid (Below w.heap.size w w') := by
  obtain ⟨wa, hwa⟩ : ∃ wa, wa = w.alloc (.cells #[.string ⟨#[97]⟩, .int .i64 1, .int .i64 1, .string ⟨#[120]⟩] 32) := ⟨_, rfl⟩
  have HWA : Hid (w.alloc (.cells #[.string ⟨#[97]⟩, .int .i64 1, .int .i64 1, .string ⟨#[120]⟩] 32) = wa) := hwa.symm
  have UA : Hid (Below w.heap.size w wa) := by rw [hwa]; exact up_alloc _ _
  have HR : Hid (EntsR wa (.slice (some ⟨w.heap.size, 0, none⟩) 1 1) [exT]) := by
    rw [hwa]
    exact Rws.made (sz := 4) w 32 [enRow exT] (by simp [enRow]) (by simp [maxLen])
  clear hwa
  have HE := hid (build_any [exT] _ wa HR.out)
  rw [buildB_good exT_chk] at HE
  have HN := hid num_any
  have HLE := (tab_le exT_chk).2
  have HTO := hid (tab_oct exT_chk)
  have HGE := hid exT_get
  generalize tabO [exT] = TB at *
  go_enter Try.func4, Try.ntmps4
  go_wp2_with fail
  rw [HWA.out]
  refine HE.out.mono ?_
  rintro e w1 ⟨ta, tn, tc, rfl, hn, O1, b1⟩
  have HG := hid (get_any10 TB ta tn tc ⟨#[97]⟩ 9 w1 hn.out (Octs.own O1.out HTO.out) (by have := hn.out; omega))
  rw [HGE.out] at HG
  have U1 := hid (up_trans UA.out b1.out)
  clear HWA HE HR O1 b1 UA hn
  unfold enV exT at HG
  simp only at HG
  go_wp2_with fail
  refine HG.out.mono ?_
  rintro e w2 ⟨rfl, b2⟩
  have U2 := hid (up_trans U1.out b2.out)
  clear HG b2 U1
  go_wp2_with fail
  refine (HN.out 0 _).mono ?_
  rintro e w3 ⟨rfl, rfl⟩
  go_wp2_with fail
  refine (HN.out 0 _).mono ?_
  rintro e w4 ⟨rfl, rfl⟩
  go_wp2
  go_ret
  exact ⟨by first | rfl | simp, up_al U2.out _⟩

theorem pgT : PgT where
  build := fun l v W h => build_any l v W h
  opn := fun B a n c W hn h hl => open_any B a n c W hn h hl
  get := fun B a n c key seq W hn h hl => get_any10 B a n c key seq W hn h hl
  alive := alive10
end Go.Proofs.Ytekoniaobmapdab
