/- The page's example of layer 9; what the laws want of the program. -/
import Derived.Test.YtibjjhceiohmeaaYSeek
import Derived.Test.YtibjjhceiohmeaaXLaw
namespace Go.Proofs.Ytibjjhceiohmeaa
open Go.RowKit SumPlain
set_option linter.unusedVariables false
set_option linter.unusedSimpArgs false

def exP : En := ⟨⟨#[97, 98]⟩, 2, 1, ⟨#[]⟩⟩
def exQ : En := ⟨⟨#[97, 98, 99]⟩, 1, 1, ⟨#[]⟩⟩
theorem ex_chk : chkB [exP, exQ] = 0 := by
  have m1 : mayE exP = true := by simp [mayE, exP, ByteArray.size, ByteArray.toList_eq]
  have m2 : mayE exQ = true := by simp [mayE, exQ, ByteArray.size, ByteArray.toList_eq]
  have b1 : beforeE exP exQ = true := by simp [beforeE, exP, exQ, ByteArray.toList_eq, Op.bytesLess]
  unfold chkB
  rw [if_neg (by simp)]
  simp [ordE, m1, m2, aheadE, b1]
theorem ex_block : blockO [exP, exQ] = [0, 2, 2, 0, 1, 97, 98, 2, 1, 1, 0, 1, 99, 0, 0, 1] := by kernel_rfl
theorem ex_enc : ∃ r : List Int, (encB [exP, exQ]).1 = [0, 2, 2, 0, 1, 97, 98, 2, 1, 1, 0, 1, 99, 0, 0, 1] ++ r ∧ (encB [exP, exQ]).2 = 0 := by
  have e : encB [exP, exQ] = (guardOf (blockO [exP, exQ]), 0) := by unfold encB; rw [if_pos ex_chk]
  rw [e, ex_block]
  exact ⟨_, rfl, rfl⟩

set_option maxHeartbeats 4000000 in
set_option maxRecDepth 100000 in
theorem alive_any (w : World) : Calls Try.prog 22 #[] w fun e w' => e = .returned (.bool true) ∧ Hid (Below w.heap.size w w') := by
  obtain ⟨wa, hwa⟩ : ∃ wa, wa = w.alloc (.cells #[.string ⟨#[97, 98]⟩, .int .i64 2, .int .i64 1, .string ⟨#[]⟩, .string ⟨#[97, 98, 99]⟩, .int .i64 1, .int .i64 1, .string ⟨#[]⟩] 36) := ⟨_, rfl⟩
  have HWA : Hid (w.alloc (.cells #[.string ⟨#[97, 98]⟩, .int .i64 2, .int .i64 1, .string ⟨#[]⟩, .string ⟨#[97, 98, 99]⟩, .int .i64 1, .int .i64 1, .string ⟨#[]⟩] 36) = wa) := hwa.symm
  have UA : Hid (Below w.heap.size w wa) := by rw [hwa]; exact up_alloc _ _
  have HR : Hid (EntsR wa (.slice (some ⟨w.heap.size, 0, none⟩) 2 2) [exP, exQ]) := by
    rw [hwa]
    exact Rws.made (sz := 4) w 36 [enRow exP, enRow exQ] (by simp [enRow]) (by simp [maxLen])
  clear hwa
  have HE := encP_law [exP, exQ] _ wa HR.out
  obtain ⟨r, hr, h0⟩ := ex_enc
  have HEL := encB_len [exP, exQ]
  have HEO := encB_oct [exP, exQ]
  have HDE := dec_encB ex_chk
  rw [h0] at HE
  generalize (encB [exP, exQ]).1 = E at *
  have HN := hid num_any
  go_enter Try.func22, Try.ntmps22
  go_wp2_with fail
  rw [HWA.out]
  refine HE.mono ?_
  rintro e w1 ⟨a1, n1, c1, rfl, hn1, O1, u1⟩
  have OC : Hid (Octs w1 (.slice a1 n1 c1) E) := Octs.own O1.out HEO
  have HD := decode_any E _ w1 OC.out (by omega)
  rw [HDE] at HD
  clear HE HR HWA O1
  go_wp2_with fail
  refine HD.mono ?_
  rintro e w2 ⟨a2, n2, c2, rfl, hn2, O2, u2⟩
  obtain rfl : n2 = 2 := hn2.out
  have HU : Hid (Below w.heap.size w w2) := up_trans UA.out (up_trans u1.out u2.out)
  have EL : Hid (EntsR w2 (.slice a2 2 c2) [exP, exQ]) := Rws.own O2.out
  have OC2 := OC.out.up u2.out
  obtain ⟨b, off, cap, y, e, hy, z0, z1, z2, z3⟩ := EL.out.at 1 (by decide)
  simp only [Value.slice.injEq] at e
  obtain ⟨rfl, _, rfl⟩ := e
  obtain rfl : exQ = y := by simpa using hy
  have hEl : n1 = 16 + r.length := by rw [hn1.out, hr]; simp; omega
  have hne : E ≠ [] := by rw [hr]; simp
  rcases OC2.2 with ⟨q, _⟩ | ⟨_, b', off', cap', hv', hcap', hmx, hcell⟩
  · exact absurd q hne
  simp only [Value.slice.injEq] at hv'
  obtain ⟨rfl, _, rfl⟩ := hv'
  have x7 : w2.cell? ⟨b', off' + 7, none⟩ = some (.int .u8 2) := hcell 7 2 (by rw [hr]; rfl)
  have x8 : w2.cell? ⟨b', off' + 8, none⟩ = some (.int .u8 1) := hcell 8 1 (by rw [hr]; rfl)
  have g1 : (14 : Int) < (n1 : Int) := by omega
  have g2 : (7 : Int) < (n1 : Int) := by omega
  have g3 : (8 : Int) < (n1 : Int) := by omega
  have z0' : w2.cell? ⟨b, off + 4, none⟩ = some (.string ⟨#[97, 98, 99]⟩) := by simpa [exQ] using z0
  have s1 : ((⟨#[97, 98, 99]⟩ : ByteArray).toList == (⟨#[97, 98, 99]⟩ : ByteArray).toList) = true := by simp
  clear HD HDE hr h0 HEL HEO hcell hcap' hmx OC OC2 z0 z1 z2 z3 hn1 hn2 O2 u1 u2 hEl hy hne EL
  go_wp2_with fail
  refine (HN.out 0 _).mono ?_
  rintro e w3 ⟨rfl, rfl⟩
  go_wp2_with fail
  refine (HN.out 0 _).mono ?_
  rintro e w4 ⟨rfl, rfl⟩
  go_wp2_with fail
  go_ret
  exact ⟨rfl, HU⟩

theorem pg : Pg where
  enc := encP_law
  dec := fun B v W h hl => decode_any B v W h hl
  seek := fun B v key seq W h hl => seek_any B v key seq W h hl
  chk := fun l v W h => checkP_any l v W h
  alive := alive_any
end Go.Proofs.Ytibjjhceiohmeaa
