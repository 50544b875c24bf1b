/- The program's Check. -/
import Derived.Test.YtoceddpjkodfkaaP6
namespace Go.Proofs.Ytoceddpjkodfkaa
open Go.RowKit
set_option linter.unusedVariables false

def checkP (s : St) : Bool := boundsOf s && filesMayOf s && namesMayOf s.files s.names && namesMayOf s.files s.safe && allNamedOf s

/-- What Check answers. -/
def errOf (b : Bool) : Int := if b then 0 else 9

theorem rise_of_ok {l : List (Int × List Int × Int)} {next : Int} (h : ∀ k, k < l.length → okFile l next k = true) : RiseF l := by
  intro a b hab hb
  induction b with
  | zero => omega
  | succ b ih =>
    have h1 := h (b + 1) hb
    unfold okFile prevId at h1
    simp only [Bool.and_eq_true, decide_eq_true_eq] at h1
    have h2 : (l.getD b (0, [], 0)).1 < (l.getD (b + 1) (0, [], 0)).1 := by simpa using h1.1.1.1
    rcases Nat.lt_or_ge a b with c | c
    · have := ih c (by omega)
      omega
    · obtain rfl : a = b := by omega
      exact h2

theorem filesMay_ok {s : St} (h : filesMayOf s = true) : ∀ k, k < s.files.length → okFile s.files s.next k = true := by
  unfold filesMayOf at h
  rw [Bool.and_eq_true] at h
  exact all_range_get h.1

theorem filesMay_rise {s : St} (h : filesMayOf s = true) : RiseF s.files := rise_of_ok (filesMay_ok h)

theorem bounds_len {s : St} (h : boundsOf s = true) : s.files.length ≤ 256 := by
  unfold boundsOf at h
  simp only [Bool.and_eq_true, decide_eq_true_eq] at h
  exact h.2

set_option maxHeartbeats 1000000 in
theorem check_any (s : St) (v : Value) (w : World) (hv : StW w v s) (hl : s.names.length + s.safe.length ≤ 9223372036854775807) :
    Calls Try.prog 23 #[v] w fun e w' => e = .returned (.int .i64 (errOf (checkP s))) ∧ Below w.heap.size w w' := by
  have HV : Hid (StW w v s) := hv
  obtain ⟨vf, vn, vs, rfl, hf, hn, hs, hic, hin⟩ := hv
  have HF : Hid (FilesW w vf s.files ∧ NamesW w vn s.names ∧ NamesW w vs s.safe) := ⟨hf, hn, hs⟩
  clear hf hn hs
  obtain ⟨wx, hwx⟩ : ∃ wx, wx = w.alloc (.cells #[.int .i64 s.cap, vf, vn, vs, .int .i64 s.next] 33) := ⟨_, rfl⟩
  have bx : Hid (BoxW w (.cells #[.int .i64 s.cap, vf, vn, vs, .int .i64 s.next] 33) wx) := by rw [hwx]; exact BoxW.start _ _
  have q0 := bx.out.cell 0 _ rfl
  have q1 := bx.out.cell 1 _ rfl
  have q2 := bx.out.cell 2 _ rfl
  have q3 := bx.out.cell 3 _ rfl
  have q4 := bx.out.cell 4 _ rfl
  have HX : Hid (w.alloc (.cells #[.int .i64 s.cap, vf, vn, vs, .int .i64 s.next] 33) = wx) := hwx.symm
  clear hwx
  go_enter Try.func23, Try.ntmps23
  go_upto_region 1 with fail
  rw [HX.out]
  have c1 := boundsMay_any s _ wx (HV.out.up bx.out.up)
  cases h1 : boundsOf s with
  | false =>
    have HE : Hid (checkP s = false) := by unfold Hid checkP; rw [h1]; rfl
    rw [h1] at c1
    clear h1
    go_wp2_with fail
    refine c1.mono ?_
    rintro e w1 ⟨rfl, hb1⟩
    have up1 : Hid (Below w.heap.size w w1) := up_trans bx.out.up hb1
    clear hb1 c1
    go_wp2_with fail
    go_ret
    rw [HE.out]
    exact ⟨rfl, up1.out⟩
  | true =>
    rw [h1] at c1
    have hlen := bounds_len h1
    go_wp2_with fail
    refine c1.mono ?_
    rintro e w1 ⟨rfl, hb1⟩
    have b1 := bx.out.step hb1
    have bx1 : Hid (BoxW w (.cells #[.int .i64 s.cap, vf, vn, vs, .int .i64 s.next] 33) w1) := b1
    clear hb1 c1 b1 q0 q1 q2 q3 q4
    have q0 := bx1.out.cell 0 _ rfl
    have q1 := bx1.out.cell 1 _ rfl
    have q2 := bx1.out.cell 2 _ rfl
    have q3 := bx1.out.cell 3 _ rfl
    have q4 := bx1.out.cell 4 _ rfl
    have c2 := filesMay_any s _ w1 (HV.out.up bx1.out.up) hlen
    cases h2 : filesMayOf s with
    | false =>
      have HE : Hid (checkP s = false) := by unfold Hid checkP; rw [h2]; simp
      rw [h2] at c2
      clear h1 h2
      go_wp2_with fail
      refine c2.mono ?_
      rintro e w2 ⟨rfl, hb2⟩
      have up2 : Hid (Below w.heap.size w w2) := up_trans bx1.out.up hb2
      clear hb2 c2
      go_wp2_with fail
      go_ret
      rw [HE.out]
      exact ⟨rfl, up2.out⟩
    | true =>
      rw [h2] at c2
      have HRi : Hid (RiseF s.files) := filesMay_rise h2
      go_wp2_with fail
      refine c2.mono ?_
      rintro e w2 ⟨rfl, hb2⟩
      have b2 := bx1.out.step hb2
      have bx2 : Hid (BoxW w (.cells #[.int .i64 s.cap, vf, vn, vs, .int .i64 s.next] 33) w2) := b2
      clear hb2 c2 b2 q0 q1 q2 q3 q4
      have q0 := bx2.out.cell 0 _ rfl
      have q1 := bx2.out.cell 1 _ rfl
      have q2 := bx2.out.cell 2 _ rfl
      have q3 := bx2.out.cell 3 _ rfl
      have q4 := bx2.out.cell 4 _ rfl
      have c3 := namesMay_any s.files s.names vf vn w2 (HF.out.1.up bx2.out.up) (HF.out.2.1.up bx2.out.up) (by omega) HRi.out
      cases h3 : namesMayOf s.files s.names with
      | false =>
        have HE : Hid (checkP s = false) := by unfold Hid checkP; rw [h3]; simp
        rw [h3] at c3
        clear h1 h2 h3
        go_wp2_with fail
        refine c3.mono ?_
        rintro e w3 ⟨rfl, hb3⟩
        have up3 : Hid (Below w.heap.size w w3) := up_trans bx2.out.up hb3
        clear hb3 c3
        go_wp2_with fail
        go_ret
        rw [HE.out]
        exact ⟨rfl, up3.out⟩
      | true =>
        rw [h3] at c3
        go_wp2_with fail
        refine c3.mono ?_
        rintro e w3 ⟨rfl, hb3⟩
        have b3 := bx2.out.step hb3
        have bx3 : Hid (BoxW w (.cells #[.int .i64 s.cap, vf, vn, vs, .int .i64 s.next] 33) w3) := b3
        clear hb3 c3 b3 q0 q1 q2 q3 q4
        have q0 := bx3.out.cell 0 _ rfl
        have q1 := bx3.out.cell 1 _ rfl
        have q2 := bx3.out.cell 2 _ rfl
        have q3 := bx3.out.cell 3 _ rfl
        have q4 := bx3.out.cell 4 _ rfl
        have c4 := namesMay_any s.files s.safe vf vs w3 (HF.out.1.up bx3.out.up) (HF.out.2.2.up bx3.out.up) (by omega) HRi.out
        cases h4 : namesMayOf s.files s.safe with
        | false =>
          have HE : Hid (checkP s = false) := by unfold Hid checkP; rw [h4]; simp
          rw [h4] at c4
          clear h1 h2 h3 h4
          go_wp2_with fail
          refine c4.mono ?_
          rintro e w4 ⟨rfl, hb4⟩
          have up4 : Hid (Below w.heap.size w w4) := up_trans bx3.out.up hb4
          clear hb4 c4
          go_wp2_with fail
          go_ret
          rw [HE.out]
          exact ⟨rfl, up4.out⟩
        | true =>
          rw [h4] at c4
          go_wp2_with fail
          refine c4.mono ?_
          rintro e w4 ⟨rfl, hb4⟩
          have b4 := bx3.out.step hb4
          have bx4 : Hid (BoxW w (.cells #[.int .i64 s.cap, vf, vn, vs, .int .i64 s.next] 33) w4) := b4
          clear hb4 c4 b4 q0 q1 q2 q3 q4
          have q0 := bx4.out.cell 0 _ rfl
          have q1 := bx4.out.cell 1 _ rfl
          have q2 := bx4.out.cell 2 _ rfl
          have q3 := bx4.out.cell 3 _ rfl
          have q4 := bx4.out.cell 4 _ rfl
          have c5 := allNamed_any s _ w4 (HV.out.up bx4.out.up) hl
          have HE : Hid (checkP s = allNamedOf s) := by unfold Hid checkP; rw [h1, h2, h3, h4]; rfl
          clear h1 h2 h3 h4
          cases h5 : allNamedOf s with
          | false =>
            rw [h5] at c5 HE
            clear h5
            go_wp2_with fail
            refine c5.mono ?_
            rintro e w5 ⟨rfl, hb5⟩
            have up5 : Hid (Below w.heap.size w w5) := up_trans bx4.out.up hb5
            clear hb5 c5
            go_wp2_with fail
            go_ret
            rw [HE.out]
            exact ⟨rfl, up5.out⟩
          | true =>
            rw [h5] at c5 HE
            clear h5
            go_wp2_with fail
            refine c5.mono ?_
            rintro e w5 ⟨rfl, hb5⟩
            have up5 : Hid (Below w.heap.size w w5) := up_trans bx4.out.up hb5
            clear hb5 c5
            go_wp2_with fail
            go_ret
            rw [HE.out]
            exact ⟨rfl, up5.out⟩
end Go.Proofs.Ytoceddpjkodfkaa
