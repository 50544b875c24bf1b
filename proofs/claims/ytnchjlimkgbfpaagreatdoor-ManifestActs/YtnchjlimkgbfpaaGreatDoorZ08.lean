/- The texts P7, P8, in this order. -/
import Derived.Test.YtnchjlimkgbfpaaGreatDoorZ07
import Derived.Test.YtnchjlimkgbfpaaGreatDoorZ03
import Derived.Test.YtnchjlimkgbfpaaGreatDoorZ02

namespace Go.Proofs.YtnchjlimkgbfpaaGreatDoor
open Go.RowKit
set_option linter.unusedVariables false
set_option maxRecDepth 20000
def checkP (s : St) : Bool := boundsOf s && filesMayOf s && namesMayOf s.files s.names && namesMayOf s.files s.safe && allNamedOf s
def errOf (b : Bool) : Int := if b then 0 else 9
theorem rise_of_ok {l : List (Int × List Int × Int)} {next : Int} (h : ∀ k, k < l.length → okFile l next k = true) : RiseF l := by
  intro a b hab hb
  induction b with
  | zero => omega
  | succ b ih =>
    have h1 := h (b + 1) hb
    unfold okFile prevId at h1
    simp only [Bool.and_eq_true, decide_eq_true_eq] at h1
    have h2 : (l.getD b (0, [], 0)).1 < (l.getD (b + 1) (0, [], 0)).1 := by simpa using h1.1.1.1
    rcases Nat.lt_or_ge a b with c | c
    · have := ih c (by omega)
      omega
    · obtain rfl : a = b := by omega
      exact h2
theorem filesMay_ok {s : St} (h : filesMayOf s = true) : ∀ k, k < s.files.length → okFile s.files s.next k = true := by
  unfold filesMayOf at h
  rw [Bool.and_eq_true] at h
  exact all_range_get h.1
theorem filesMay_rise {s : St} (h : filesMayOf s = true) : RiseF s.files := rise_of_ok (filesMay_ok h)
theorem bounds_len {s : St} (h : boundsOf s = true) : s.files.length ≤ 256 := by
  unfold boundsOf at h
  simp only [Bool.and_eq_true, decide_eq_true_eq] at h
  exact h.2
set_option maxHeartbeats 1000000 in
theorem check_any (s : St) (v : Value) (w : World) (hv : StW w v s) (hl : s.names.length + s.safe.length ≤ 9223372036854775807) :
    Calls Tryz.prog 70 #[v] w fun e w' => e = .returned (.int .i64 (errOf (checkP s))) ∧ Below w.heap.size w w' := by
  have HV : Hid (StW w v s) := hv
  obtain ⟨vf, vn, vs, rfl, hf, hn, hs, hic, hin⟩ := hv
  have HF : Hid (FilesW w vf s.files ∧ NamesW w vn s.names ∧ NamesW w vs s.safe) := ⟨hf, hn, hs⟩
  clear hf hn hs
  obtain ⟨wx, hwx⟩ : ∃ wx, wx = w.alloc (.cells #[.int .i64 s.cap, vf, vn, vs, .int .i64 s.next] 35) := ⟨_, rfl⟩
  have bx : Hid (BoxW w (.cells #[.int .i64 s.cap, vf, vn, vs, .int .i64 s.next] 35) wx) := by rw [hwx]; exact BoxW.start _ _
  have q0 := bx.out.cell 0 _ rfl
  have q1 := bx.out.cell 1 _ rfl
  have q2 := bx.out.cell 2 _ rfl
  have q3 := bx.out.cell 3 _ rfl
  have q4 := bx.out.cell 4 _ rfl
  have HX : Hid (w.alloc (.cells #[.int .i64 s.cap, vf, vn, vs, .int .i64 s.next] 35) = wx) := hwx.symm
  clear hwx
  go_enter Tryz.func70, Tryz.ntmps70
  go_upto_region 1 with fail
  rw [HX.out]
  have c1 := boundsMay_any s _ wx (HV.out.up bx.out.up)
  cases h1 : boundsOf s with
  | false =>
    have HE : Hid (checkP s = false) := by unfold Hid checkP; rw [h1]; rfl
    rw [h1] at c1
    clear h1
    go_wp2_with fail
    refine c1.mono ?_
    rintro e w1 ⟨rfl, hb1⟩
    have up1 : Hid (Below w.heap.size w w1) := up_trans bx.out.up hb1
    clear hb1 c1
    go_wp2_with fail
    go_ret
    rw [HE.out]
    exact ⟨rfl, up1.out⟩
  | true =>
    rw [h1] at c1
    have hlen := bounds_len h1
    go_wp2_with fail
    refine c1.mono ?_
    rintro e w1 ⟨rfl, hb1⟩
    have b1 := bx.out.step hb1
    have bx1 : Hid (BoxW w (.cells #[.int .i64 s.cap, vf, vn, vs, .int .i64 s.next] 35) w1) := b1
    clear hb1 c1 b1 q0 q1 q2 q3 q4
    have q0 := bx1.out.cell 0 _ rfl
    have q1 := bx1.out.cell 1 _ rfl
    have q2 := bx1.out.cell 2 _ rfl
    have q3 := bx1.out.cell 3 _ rfl
    have q4 := bx1.out.cell 4 _ rfl
    have c2 := filesMay_any s _ w1 (HV.out.up bx1.out.up) hlen
    cases h2 : filesMayOf s with
    | false =>
      have HE : Hid (checkP s = false) := by unfold Hid checkP; rw [h2]; simp
      rw [h2] at c2
      clear h1 h2
      go_wp2_with fail
      refine c2.mono ?_
      rintro e w2 ⟨rfl, hb2⟩
      have up2 : Hid (Below w.heap.size w w2) := up_trans bx1.out.up hb2
      clear hb2 c2
      go_wp2_with fail
      go_ret
      rw [HE.out]
      exact ⟨rfl, up2.out⟩
    | true =>
      rw [h2] at c2
      have HRi : Hid (RiseF s.files) := filesMay_rise h2
      go_wp2_with fail
      refine c2.mono ?_
      rintro e w2 ⟨rfl, hb2⟩
      have b2 := bx1.out.step hb2
      have bx2 : Hid (BoxW w (.cells #[.int .i64 s.cap, vf, vn, vs, .int .i64 s.next] 35) w2) := b2
      clear hb2 c2 b2 q0 q1 q2 q3 q4
      have q0 := bx2.out.cell 0 _ rfl
      have q1 := bx2.out.cell 1 _ rfl
      have q2 := bx2.out.cell 2 _ rfl
      have q3 := bx2.out.cell 3 _ rfl
      have q4 := bx2.out.cell 4 _ rfl
      have c3 := namesMay_any s.files s.names vf vn w2 (HF.out.1.up bx2.out.up) (HF.out.2.1.up bx2.out.up) (by omega) HRi.out
      cases h3 : namesMayOf s.files s.names with
      | false =>
        have HE : Hid (checkP s = false) := by unfold Hid checkP; rw [h3]; simp
        rw [h3] at c3
        clear h1 h2 h3
        go_wp2_with fail
        refine c3.mono ?_
        rintro e w3 ⟨rfl, hb3⟩
        have up3 : Hid (Below w.heap.size w w3) := up_trans bx2.out.up hb3
        clear hb3 c3
        go_wp2_with fail
        go_ret
        rw [HE.out]
        exact ⟨rfl, up3.out⟩
      | true =>
        rw [h3] at c3
        go_wp2_with fail
        refine c3.mono ?_
        rintro e w3 ⟨rfl, hb3⟩
        have b3 := bx2.out.step hb3
        have bx3 : Hid (BoxW w (.cells #[.int .i64 s.cap, vf, vn, vs, .int .i64 s.next] 35) w3) := b3
        clear hb3 c3 b3 q0 q1 q2 q3 q4
        have q0 := bx3.out.cell 0 _ rfl
        have q1 := bx3.out.cell 1 _ rfl
        have q2 := bx3.out.cell 2 _ rfl
        have q3 := bx3.out.cell 3 _ rfl
        have q4 := bx3.out.cell 4 _ rfl
        have c4 := namesMay_any s.files s.safe vf vs w3 (HF.out.1.up bx3.out.up) (HF.out.2.2.up bx3.out.up) (by omega) HRi.out
        cases h4 : namesMayOf s.files s.safe with
        | false =>
          have HE : Hid (checkP s = false) := by unfold Hid checkP; rw [h4]; simp
          rw [h4] at c4
          clear h1 h2 h3 h4
          go_wp2_with fail
          refine c4.mono ?_
          rintro e w4 ⟨rfl, hb4⟩
          have up4 : Hid (Below w.heap.size w w4) := up_trans bx3.out.up hb4
          clear hb4 c4
          go_wp2_with fail
          go_ret
          rw [HE.out]
          exact ⟨rfl, up4.out⟩
        | true =>
          rw [h4] at c4
          go_wp2_with fail
          refine c4.mono ?_
          rintro e w4 ⟨rfl, hb4⟩
          have b4 := bx3.out.step hb4
          have bx4 : Hid (BoxW w (.cells #[.int .i64 s.cap, vf, vn, vs, .int .i64 s.next] 35) w4) := b4
          clear hb4 c4 b4 q0 q1 q2 q3 q4
          have q0 := bx4.out.cell 0 _ rfl
          have q1 := bx4.out.cell 1 _ rfl
          have q2 := bx4.out.cell 2 _ rfl
          have q3 := bx4.out.cell 3 _ rfl
          have q4 := bx4.out.cell 4 _ rfl
          have c5 := allNamed_any s _ w4 (HV.out.up bx4.out.up) hl
          have HE : Hid (checkP s = allNamedOf s) := by unfold Hid checkP; rw [h1, h2, h3, h4]; rfl
          clear h1 h2 h3 h4
          cases h5 : allNamedOf s with
          | false =>
            rw [h5] at c5 HE
            clear h5
            go_wp2_with fail
            refine c5.mono ?_
            rintro e w5 ⟨rfl, hb5⟩
            have up5 : Hid (Below w.heap.size w w5) := up_trans bx4.out.up hb5
            clear hb5 c5
            go_wp2_with fail
            go_ret
            rw [HE.out]
            exact ⟨rfl, up5.out⟩
          | true =>
            rw [h5] at c5 HE
            clear h5
            go_wp2_with fail
            refine c5.mono ?_
            rintro e w5 ⟨rfl, hb5⟩
            have up5 : Hid (Below w.heap.size w w5) := up_trans bx4.out.up hb5
            clear hb5 c5
            go_wp2_with fail
            go_ret
            rw [HE.out]
            exact ⟨rfl, up5.out⟩
end Go.Proofs.YtnchjlimkgbfpaaGreatDoor

namespace Go.Proofs.YtnchjlimkgbfpaaGreatDoor
open Go.RowKit
set_option linter.unusedVariables false
set_option maxRecDepth 20000
theorem apart_new {w w' : World} {b1 : Nat} {e1 e2 : TypeId} {s1 s2 : Nat} {v1 v2 : Value} {n1 n2 : Nat} {x1 x2 : List Value} (h1 : w.ownsRow b1 e1 s1 v1 n1 x1) (h2 : w'.ownsRow w.heap.size e2 s2 v2 n2 x2) : Apart v1 v2 := by
  unfold Apart
  cases hv : v1.ownBlock with
  | none => exact .inl rfl
  | some b =>
    refine .inr ?_
    intro q
    have a1 := (h1.lt b hv).2
    have a2 := (h2.lt b q.symm).1
    omega
theorem OwnN.far {w w' : World} {base : Nat} {e : TypeId} {v : Value} {l : List (List Int × Int)} {r : Option Nat} (h : OwnN w base e v l) (hg : w.grownBy w' r) (hne : v.ownBlock = none ∨ v.ownBlock ≠ r) : OwnN w' base e v l := ⟨h.1, h.2.far hg hne⟩
theorem OwnN.mono {w : World} {base base' : Nat} {e : TypeId} {v : Value} {l : List (List Int × Int)} (h : OwnN w base e v l) (hb : base' ≤ base) : OwnN w base' e v l := ⟨h.1, h.2.mono hb⟩
abbrev FRow := Value × Int × List Int × Int
def okRow (y : FRow) : Prop := OctL y.2.2.1 ∧ y.2.2.1.length ≤ 140737488355328 ∧ In64 y.2.1 ∧ In64 y.2.2.2
def OwnF (w : World) (base : Nat) (v : Value) (m : List FRow) : Prop :=
  OwnR w base 110 3 v (m.map frow) ∧ (∀ y ∈ m, OwnB w base y.1 y.2.2.1 ∧ okRow y) ∧ m.Pairwise (fun y z => Apart y.1 z.1)
theorem OwnB.up {w w' : World} {base : Nat} {v : Value} {l : List Int} (h : OwnB w base v l) (hb : Below w.heap.size w w') : OwnB w' base v l := own_up h hb
theorem OwnB.far {w w' : World} {base : Nat} {v : Value} {l : List Int} {r : Option Nat} (h : OwnB w base v l) (hg : w.grownBy w' r) (hne : v.ownBlock = none ∨ v.ownBlock ≠ r) : OwnB w' base v l := World.ownsRow.kept h hg hne
theorem OwnF.up {w w' : World} {base : Nat} {v : Value} {m : List FRow} (h : OwnF w base v m) (hb : Below w.heap.size w w') : OwnF w' base v m :=
  ⟨h.1.up hb, fun y hy => ⟨(h.2.1 y hy).1.up hb, (h.2.1 y hy).2⟩, h.2.2⟩
theorem OwnF.far {w w' : World} {base : Nat} {v : Value} {m : List FRow} {r : Option Nat} (h : OwnF w base v m) (hg : w.grownBy w' r) (h1 : v.ownBlock = none ∨ v.ownBlock ≠ r) (h2 : ∀ y ∈ m, y.1.ownBlock = none ∨ y.1.ownBlock ≠ r) : OwnF w' base v m :=
  ⟨h.1.far hg h1, fun y hy => ⟨(h.2.1 y hy).1.far hg (h2 y hy), (h.2.1 y hy).2⟩, h.2.2⟩
theorem OwnF.mono {w : World} {base base' : Nat} {v : Value} {m : List FRow} (h : OwnF w base v m) (hb : base' ≤ base) : OwnF w base' v m :=
  ⟨h.1.mono hb, fun y hy => ⟨(h.2.1 y hy).1.mono hb, (h.2.1 y hy).2⟩, h.2.2⟩
theorem FilesW.own {w : World} {base : Nat} {v : Value} {m : List FRow} (h : OwnF w base v m) : FilesW w v (m.map (·.2)) :=
  ⟨m, rfl, Rws.own h.1, fun y hy => ⟨Octs.own (h.2.1 y hy).1 (h.2.1 y hy).2.1, (h.2.1 y hy).2.2⟩⟩
def OwnV (w : World) (base : Nat) (v : Value) (s : St) : Prop := ∃ vf vn vs m, v = .agg #[.int .i64 s.cap, vf, vn, vs, .int .i64 s.next] ∧ m.map (·.2) = s.files ∧ OwnF w base vf m ∧ OwnN w base 146 vn s.names ∧ OwnN w base 146 vs s.safe ∧ Apart vn vs ∧ In64 s.cap ∧ In64 s.next
theorem OwnV.up {w w' : World} {base : Nat} {v : Value} {s : St} (h : OwnV w base v s) (hb : Below w.heap.size w w') : OwnV w' base v s := by
  obtain ⟨vf, vn, vs, m, e, hm, h1, h2, h3, h4⟩ := h
  exact ⟨vf, vn, vs, m, e, hm, h1.up hb, h2.up hb, h3.up hb, h4⟩
theorem StW.own {w : World} {base : Nat} {v : Value} {s : St} (h : OwnV w base v s) : StW w v s := by
  obtain ⟨vf, vn, vs, m, e, hm, h1, h2, h3, _, h5, h6⟩ := h
  exact ⟨vf, vn, vs, e, by rw [← hm]; exact FilesW.own h1, NamesW.own h2, NamesW.own h3, h5, h6⟩
theorem OwnV.mono {w : World} {base base' : Nat} {v : Value} {s : St} (h : OwnV w base v s) (hb : base' ≤ base) : OwnV w base' v s := by
  obtain ⟨vf, vn, vs, m, e, hm, h1, h2, h3, h4⟩ := h
  exact ⟨vf, vn, vs, m, e, hm, h1.mono hb, h2.mono hb, h3.mono hb, h4⟩
theorem Tryz.info146 : (Tryz.prog.info? 146).map (fun i => (i.zero, i.size, i.bytes)) = some (some (.agg #[.string ⟨#[]⟩, .int .i64 0]), 2, 24) := by kernel_rfl
theorem Tryz.info110 : (Tryz.prog.info? 110).map (fun i => (i.zero, i.size, i.bytes)) = some (some (.agg #[.int .i64 0, .slice none 0 0, .int .i64 0]), 3, 40) := by kernel_rfl
end Go.Proofs.YtnchjlimkgbfpaaGreatDoor
