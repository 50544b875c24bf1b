/- Jobs: the program's Lease, Finish and Fail. -/
import Derived.Test.YtpjmieiajhhbaaaDoorQChk
import Derived.Test.YtpjmieiajhhbaaaDoorDNxt
import Derived.Test.YtpjmieiajhhbaaaDoorGB
import Derived.Test.YtpjmieiajhhbaaaDoorJSay
namespace Go.Proofs.YtpjmieiajhhbaaaDoor
open Go.RowKit
set_option linter.unusedVariables false
set_option linter.unusedSimpArgs false

theorem results_qob2 {fn : Func} {q r : Nat} (h : fn.results = #[.cell q 27, .tmp r]) (tmps : Array Value) (w : World) {N : Nat} {a0 a1 a2 a3 a4 a5 a6 a7 a8 a9 : Value} (ht : tmps.getD q undef = .pointer (some ⟨N, 0, none⟩))
    (hc : w.heap[N]? = some (.cells #[a0, a1, a2, a3, a4, a5, a6, a7, a8, a9] 27)) : (results fn tmps).run Tryd.prog w = .ok (.tuple #[.agg #[a0, a1, a2, a3, a4, a5, a6, a7, a8, a9], tmps.getD r undef]) w := by
  have c0 := blk_cell hc 0 a0 rfl
  have c1 := blk_cell hc 1 a1 rfl
  have c2 := blk_cell hc 2 a2 rfl
  have c3 := blk_cell hc 3 a3 rfl
  have c4 := blk_cell hc 4 a4 rfl
  have c5 := blk_cell hc 5 a5 rfl
  have c6 := blk_cell hc 6 a6 rfl
  have c7 := blk_cell hc 7 a7 rfl
  have c8 := blk_cell hc 8 a8 rfl
  have c9 := blk_cell hc 9 a9 rfl
  have ht' : tmps[q]?.getD undef = .pointer (some ⟨N, 0, none⟩) := by simpa using ht
  simp only [results, h]
  simp [ht', go_sem, c0, c1, c2, c3, c4, c5, c6, c7, c8, c9]
theorem results_qob3 {fn : Func} {q r s : Nat} (h : fn.results = #[.cell q 27, .tmp r, .tmp s]) (tmps : Array Value) (w : World) {N : Nat} {a0 a1 a2 a3 a4 a5 a6 a7 a8 a9 : Value} (ht : tmps.getD q undef = .pointer (some ⟨N, 0, none⟩))
    (hc : w.heap[N]? = some (.cells #[a0, a1, a2, a3, a4, a5, a6, a7, a8, a9] 27)) : (results fn tmps).run Tryd.prog w = .ok (.tuple #[.agg #[a0, a1, a2, a3, a4, a5, a6, a7, a8, a9], tmps.getD r undef, tmps.getD s undef]) w := by
  have c0 := blk_cell hc 0 a0 rfl
  have c1 := blk_cell hc 1 a1 rfl
  have c2 := blk_cell hc 2 a2 rfl
  have c3 := blk_cell hc 3 a3 rfl
  have c4 := blk_cell hc 4 a4 rfl
  have c5 := blk_cell hc 5 a5 rfl
  have c6 := blk_cell hc 6 a6 rfl
  have c7 := blk_cell hc 7 a7 rfl
  have c8 := blk_cell hc 8 a8 rfl
  have c9 := blk_cell hc 9 a9 rfl
  have ht' : tmps[q]?.getD undef = .pointer (some ⟨N, 0, none⟩) := by simpa using ht
  simp only [results, h]
  simp [ht', go_sem, c0, c1, c2, c3, c4, c5, c6, c7, c8, c9]
theorem nextE_any (r : Ru) (hr : r.ok) (t : Int) (w : World) (he : Env w) : Calls Tryd.prog 66 #[ruV r, .int .i64 t] w fun e w' => e = .returned (.tuple #[.int .i64 (nextP r t).1, .bool (nextP r t).2.1, .int .i64 (nextP r t).2.2]) ∧ Below w.heap.size w w' := by
  refine (next_any r hr t w he).mono ?_
  rintro e w' ⟨⟨a, is, c, rfl, h⟩, hb⟩
  rw [nextP_is h]
  exact ⟨rfl, hb⟩
noncomputable def recurP (j : Jb) (now : Int) : Jb × Bool := if (parseR j.ru).2 ≠ 0 then (jb0, false) else if (nextP (parseR j.ru).1 now).2.2 ≠ 0 then (jb0, false) else if (nextP (parseR j.ru).1 now).2.1 then (becP j 1 (nextP (parseR j.ru).1 now).1 0 0 0 0, true) else (jb0, false)
theorem recur_again {j : Jb} (h : chkJ j = 0) (now : Int) : recurP j now = if (againP j now).2 then ((againP j now).1, true) else (jb0, false) := by
  have H := (jb_in h).ru
  unfold recurP
  by_cases hr : j.ru = []
  · have e : againP j now = (j, false) := if_pos hr
    rw [e, hr, if_pos parse_none]
    rfl
  have hp : (parseR j.ru).2 = 0 := by
    rcases H with H | H
    · exact absurd H hr
    · exact H.1
  rw [if_neg (by rw [hp]; decide)]
  have e : againP j now = if (nextP (parseR j.ru).1 now).2.1 then (freeP { j with tr := 0 } 1 (nextP (parseR j.ru).1 now).1, true) else (j, false) := if_neg hr
  rw [e]
  cases c : (nextP (parseR j.ru).1 now).2.1
  · simp
  · have z := (nextP_true c).1
    have q := nextP_is z
    have z2 : (nextP (parseR j.ru).1 now).2.2 = 0 := by rw [q]
    rw [if_neg (by rw [z2]; decide)]
    rfl
def mayP (j : Jb) (now : Int) : Int := if j.st ≠ 2 then 81 else if inB now 0 32503679999 then 0 else 4
set_option maxHeartbeats 1000000 in
set_option maxRecDepth 20000 in
theorem mayEnd_any (j : Jb) (now : Int) (w : World) : Calls Tryd.prog 42 #[jobV j, .int .i64 now] w fun e w' => e = .returned (.int .i64 (mayP j now)) ∧ Below w.heap.size w w' := by
  have HW := hid (withinE_any now 0 32503679999)
  have MP : Hid (mayP j now = if j.st ≠ 2 then 81 else if inB now 0 32503679999 then 0 else 4) := rfl
  have U0 := hid (up_alloc w (.cells (jobC j) 27))
  unfold jobC at U0
  unfold jobV
  generalize mayP j now = M at *
  generalize inB now 0 32503679999 = b at *
  by_cases h : j.st = 2
  · have s1 : (j.st != 2) = false := by simpa using h
    have E2 := hid (MP.out.trans (if_neg (by simpa using h)))
    clear MP h
    go_enter Tryd.func42, Tryd.ntmps42
    go_wp2_with fail
    refine (HW.out _).mono ?_
    rintro e w1 ⟨rfl, rfl⟩
    cases b
    · have E : Hid (M = 4) := E2.out
      go_wp2_with fail
      go_ret
      exact ⟨by rw [E.out]; rfl, U0.out⟩
    have E : Hid (M = 0) := E2.out
    go_wp2_with fail
    go_ret
    exact ⟨by rw [E.out]; rfl, U0.out⟩
  have s1 : (j.st != 2) = true := by simpa using h
  have E : Hid (M = 81) := MP.out.trans (if_pos h)
  clear MP h
  go_enter Tryd.func42, Tryd.ntmps42
  go_wp2_with fail
  go_ret
  exact ⟨by rw [E.out]; rfl, U0.out⟩
set_option maxHeartbeats 4000000 in
set_option maxRecDepth 20000 in
theorem recur_any (j : Jb) (hj : TxtOk j.ru) (now : Int) (w : World) (he : Env w) : Calls Tryd.prog 44 #[jobV j, .int .i64 now] w fun e w' => e = .returned (.tuple #[jobV (recurP j now).1, .bool (recurP j now).2]) ∧ Below w.heap.size w w' := by
  have HP : Hid (∀ w', Below w.heap.size w w' → Calls Tryd.prog 63 #[.string (strOfNums j.ru)] w' fun e w'' => e = .returned (.tuple #[ruV (parseR j.ru).1, .int .i64 (parseR j.ru).2]) ∧ Below w'.heap.size w' w'') := fun w' hb => parse_any j.ru hj.1 hj.2 w' (he.up hb)
  have HN : Hid (∀ w', Below w.heap.size w w' → Calls Tryd.prog 66 #[ruV (parseR j.ru).1, .int .i64 now] w' fun e w'' => e = .returned (.tuple #[.int .i64 (nextP (parseR j.ru).1 now).1, .bool (nextP (parseR j.ru).1 now).2.1, .int .i64 (nextP (parseR j.ru).1 now).2.2]) ∧ Below w'.heap.size w' w'') := fun w' hb => nextE_any _ (parse_ok j.ru) now w' (he.up hb)
  have HB := hid (become_any j 1 (nextP (parseR j.ru).1 now).1 0 0 0 0)
  have RP : Hid (recurP j now = if (parseR j.ru).2 ≠ 0 then (jb0, false) else if (nextP (parseR j.ru).1 now).2.2 ≠ 0 then (jb0, false) else if (nextP (parseR j.ru).1 now).2.1 then (becP j 1 (nextP (parseR j.ru).1 now).1 0 0 0 0, true) else (jb0, false)) := rfl
  obtain ⟨q0, q1, q2⟩ := boxes2 w (jobC j) (jobC jb0) 27 27
  have B0 := hid q0
  have R0 := hid q1
  have U0 := hid q2
  unfold jobC jb0 at U0 B0 R0
  clear q0 q1 q2 hj he
  unfold jobV becP hldV at HB
  dsimp only at HB
  rw [jobV_form]
  unfold jobC
  obtain ⟨L, hL⟩ : ∃ L, L = recurP j now := ⟨_, rfl⟩
  rw [← hL] at RP ⊢
  clear hL
  generalize (nextP (parseR j.ru).1 now).1 = nt at *
  generalize (nextP (parseR j.ru).1 now).2.1 = ni at *
  generalize (nextP (parseR j.ru).1 now).2.2 = nc at *
  generalize (parseR j.ru).1 = p1 at *
  generalize (parseR j.ru).2 = p2 at *
  rw [ruV_form] at HP HN
  go_enter Tryd.func44, Tryd.ntmps44
  go_wp2_with fail
  refine (HP.out _ U0.out).mono ?_
  rintro e w2 ⟨rfl, hb2⟩
  have B2 := hid (blk_up (blk_up B0.out hb2) (up_alloc w2 (.cells #[.int .u64 (p1.mi : Int), .int .u64 (p1.ho : Int), .int .u64 (p1.da : Int), .int .u64 (p1.mo : Int), .int .u64 (p1.we : Int), .bool p1.ad, .bool p1.aw] 117)))
  have R2 := hid (blk_up (blk_up R0.out hb2) (up_alloc w2 (.cells #[.int .u64 (p1.mi : Int), .int .u64 (p1.ho : Int), .int .u64 (p1.da : Int), .int .u64 (p1.mo : Int), .int .u64 (p1.we : Int), .bool p1.ad, .bool p1.aw] 117)))
  have U2 := hid (up_al (up_trans U0.out hb2) (.cells #[.int .u64 (p1.mi : Int), .int .u64 (p1.ho : Int), .int .u64 (p1.da : Int), .int .u64 (p1.mo : Int), .int .u64 (p1.we : Int), .bool p1.ad, .bool p1.aw] 117))
  clear hb2 B0 R0 U0
  by_cases c1 : p2 = 0
  rotate_left
  · have t1 : (p2 != 0) = true := by simpa using c1
    have E : Hid (L = (jb0, false)) := RP.out.trans (if_pos c1)
    clear HB HN HP RP c1
    have rf0 := blk_frozen R2.out 0
    have rf1 := blk_frozen R2.out 1
    have rf2 := blk_frozen R2.out 2
    have rf3 := blk_frozen R2.out 3
    have rf4 := blk_frozen R2.out 4
    have rf5 := blk_frozen R2.out 5
    have rf6 := blk_frozen R2.out 6
    have rf7 := blk_frozen R2.out 7
    have rf8 := blk_frozen R2.out 8
    have rf9 := blk_frozen R2.out 9
    have ry0 := blk_cell R2.out 0 _ rfl
    have ry1 := blk_cell R2.out 1 _ rfl
    have ry2 := blk_cell R2.out 2 _ rfl
    have ry3 := blk_cell R2.out 3 _ rfl
    have ry4 := blk_cell R2.out 4 _ rfl
    have ry5 := blk_cell R2.out 5 _ rfl
    have ry6 := blk_cell R2.out 6 _ rfl
    have ry7 := blk_cell R2.out 7 _ rfl
    have ry8 := blk_cell R2.out 8 _ rfl
    have ry9 := blk_cell R2.out 9 _ rfl
    have FB := hid (set10_blk R2.out (.int .i64 0) (.string { data := #[] }) (.string { data := #[] }) (.string { data := #[] }) (.int .i64 0) (.int .i64 0) (.int .i64 0) (.int .i64 0) (.int .i64 0) (.int .i64 0))
    have FG := hid (set10_grown (w2.alloc (.cells #[.int .u64 (p1.mi : Int), .int .u64 (p1.ho : Int), .int .u64 (p1.da : Int), .int .u64 (p1.mo : Int), .int .u64 (p1.we : Int), .bool p1.ad, .bool p1.aw] 117)) (w.heap.size + 1) (.int .i64 0) (.string { data := #[] }) (.string { data := #[] }) (.string { data := #[] }) (.int .i64 0) (.int .i64 0) (.int .i64 0) (.int .i64 0) (.int .i64 0) (.int .i64 0))
    go_wp2_with fail
    refine bodyPost_ret (results_qob2 rfl _ _ rfl FB.out) rfl ?_
    exact ⟨by rw [E.out]; rfl, U2.out.grown FG.out U2.out.size (fun k hk => by simp at hk; omega)⟩
  have t1 : (p2 != 0) = false := by simpa using c1
  have RP2 := hid (RP.out.trans (if_neg (by simpa using c1)))
  clear RP c1
  go_wp2_with fail
  refine (HN.out _ U2.out).mono ?_
  rintro e w3 ⟨rfl, hb3⟩
  have B3 := hid (blk_up B2.out hb3)
  have R3 := hid (blk_up R2.out hb3)
  have U3 := hid (up_trans U2.out hb3)
  clear hb3 B2 R2 U2 HN HP
  by_cases c2 : nc = 0
  rotate_left
  · have t2 : (nc != 0) = true := by simpa using c2
    have E : Hid (L = (jb0, false)) := RP2.out.trans (if_pos c2)
    clear HB RP2 c2
    have rf0 := blk_frozen R3.out 0
    have rf1 := blk_frozen R3.out 1
    have rf2 := blk_frozen R3.out 2
    have rf3 := blk_frozen R3.out 3
    have rf4 := blk_frozen R3.out 4
    have rf5 := blk_frozen R3.out 5
    have rf6 := blk_frozen R3.out 6
    have rf7 := blk_frozen R3.out 7
    have rf8 := blk_frozen R3.out 8
    have rf9 := blk_frozen R3.out 9
    have ry0 := blk_cell R3.out 0 _ rfl
    have ry1 := blk_cell R3.out 1 _ rfl
    have ry2 := blk_cell R3.out 2 _ rfl
    have ry3 := blk_cell R3.out 3 _ rfl
    have ry4 := blk_cell R3.out 4 _ rfl
    have ry5 := blk_cell R3.out 5 _ rfl
    have ry6 := blk_cell R3.out 6 _ rfl
    have ry7 := blk_cell R3.out 7 _ rfl
    have ry8 := blk_cell R3.out 8 _ rfl
    have ry9 := blk_cell R3.out 9 _ rfl
    have FB := hid (set10_blk R3.out (.int .i64 0) (.string { data := #[] }) (.string { data := #[] }) (.string { data := #[] }) (.int .i64 0) (.int .i64 0) (.int .i64 0) (.int .i64 0) (.int .i64 0) (.int .i64 0))
    have FG := hid (set10_grown w3 (w.heap.size + 1) (.int .i64 0) (.string { data := #[] }) (.string { data := #[] }) (.string { data := #[] }) (.int .i64 0) (.int .i64 0) (.int .i64 0) (.int .i64 0) (.int .i64 0) (.int .i64 0))
    go_wp2_with fail
    refine bodyPost_ret (results_qob2 rfl _ _ rfl FB.out) rfl ?_
    exact ⟨by rw [E.out]; rfl, U3.out.grown FG.out U3.out.size (fun k hk => by simp at hk; omega)⟩
  have t2 : (nc != 0) = false := by simpa using c2
  have RP3 := hid (RP2.out.trans (if_neg (by simpa using c2)))
  clear RP2 c2
  cases ni
  · have E : Hid (L = (jb0, false)) := RP3.out
    clear HB RP3
    have rf0 := blk_frozen R3.out 0
    have rf1 := blk_frozen R3.out 1
    have rf2 := blk_frozen R3.out 2
    have rf3 := blk_frozen R3.out 3
    have rf4 := blk_frozen R3.out 4
    have rf5 := blk_frozen R3.out 5
    have rf6 := blk_frozen R3.out 6
    have rf7 := blk_frozen R3.out 7
    have rf8 := blk_frozen R3.out 8
    have rf9 := blk_frozen R3.out 9
    have ry0 := blk_cell R3.out 0 _ rfl
    have ry1 := blk_cell R3.out 1 _ rfl
    have ry2 := blk_cell R3.out 2 _ rfl
    have ry3 := blk_cell R3.out 3 _ rfl
    have ry4 := blk_cell R3.out 4 _ rfl
    have ry5 := blk_cell R3.out 5 _ rfl
    have ry6 := blk_cell R3.out 6 _ rfl
    have ry7 := blk_cell R3.out 7 _ rfl
    have ry8 := blk_cell R3.out 8 _ rfl
    have ry9 := blk_cell R3.out 9 _ rfl
    have FB := hid (set10_blk R3.out (.int .i64 0) (.string { data := #[] }) (.string { data := #[] }) (.string { data := #[] }) (.int .i64 0) (.int .i64 0) (.int .i64 0) (.int .i64 0) (.int .i64 0) (.int .i64 0))
    have FG := hid (set10_grown w3 (w.heap.size + 1) (.int .i64 0) (.string { data := #[] }) (.string { data := #[] }) (.string { data := #[] }) (.int .i64 0) (.int .i64 0) (.int .i64 0) (.int .i64 0) (.int .i64 0) (.int .i64 0))
    go_wp2_with fail
    refine bodyPost_ret (results_qob2 rfl _ _ rfl FB.out) rfl ?_
    exact ⟨by rw [E.out]; rfl, U3.out.grown FG.out U3.out.size (fun k hk => by simp at hk; omega)⟩
  have E : Hid (L = (becP j 1 nt 0 0 0 0, true)) := RP3.out
  clear RP3
  have x0 := blk_cell B3.out 0 _ rfl
  have x1 := blk_cell B3.out 1 _ rfl
  have x2 := blk_cell B3.out 2 _ rfl
  have x3 := blk_cell B3.out 3 _ rfl
  have x4 := blk_cell B3.out 4 _ rfl
  have x5 := blk_cell B3.out 5 _ rfl
  have x6 := blk_cell B3.out 6 _ rfl
  have x7 := blk_cell B3.out 7 _ rfl
  have x8 := blk_cell B3.out 8 _ rfl
  have x9 := blk_cell B3.out 9 _ rfl
  go_wp2_with fail
  refine (HB.out _).mono ?_
  rintro e w4 ⟨rfl, hb4⟩
  have R4 := hid (blk_up R3.out hb4)
  have U4 := hid (up_trans U3.out hb4)
  clear hb4 R3 U3 B3 HB x0 x1 x2 x3 x4 x5 x6 x7 x8 x9
  have rf0 := blk_frozen R4.out 0
  have rf1 := blk_frozen R4.out 1
  have rf2 := blk_frozen R4.out 2
  have rf3 := blk_frozen R4.out 3
  have rf4 := blk_frozen R4.out 4
  have rf5 := blk_frozen R4.out 5
  have rf6 := blk_frozen R4.out 6
  have rf7 := blk_frozen R4.out 7
  have rf8 := blk_frozen R4.out 8
  have rf9 := blk_frozen R4.out 9
  have ry0 := blk_cell R4.out 0 _ rfl
  have ry1 := blk_cell R4.out 1 _ rfl
  have ry2 := blk_cell R4.out 2 _ rfl
  have ry3 := blk_cell R4.out 3 _ rfl
  have ry4 := blk_cell R4.out 4 _ rfl
  have ry5 := blk_cell R4.out 5 _ rfl
  have ry6 := blk_cell R4.out 6 _ rfl
  have ry7 := blk_cell R4.out 7 _ rfl
  have ry8 := blk_cell R4.out 8 _ rfl
  have ry9 := blk_cell R4.out 9 _ rfl
  have FB := hid (set10_blk R4.out (.int .i64 j.id) (.string (strOfNums j.na)) (.string (strOfNums j.ru)) (.string (strOfNums j.pa)) (.int .i64 1) (.int .i64 nt) (.int .i64 0) (.int .i64 0) (.int .i64 0) (.int .i64 0))
  have FG := hid (set10_grown w4 (w.heap.size + 1) (.int .i64 j.id) (.string (strOfNums j.na)) (.string (strOfNums j.ru)) (.string (strOfNums j.pa)) (.int .i64 1) (.int .i64 nt) (.int .i64 0) (.int .i64 0) (.int .i64 0) (.int .i64 0))
  go_wp2_with fail
  refine bodyPost_ret (results_qob2 rfl _ _ rfl FB.out) rfl ?_
  exact ⟨by rw [E.out]; rfl, U4.out.grown FG.out U4.out.size (fun k hk => by simp at hk; omega)⟩
set_option maxHeartbeats 4000000 in
set_option maxRecDepth 20000 in
theorem leaseE_any (j : Jb) (hj : j.ok) (wk tk un : Int) (w : World) (he : Env w) : Calls Tryd.prog 17 #[jobV j, .int .i64 wk, .int .i64 tk, .int .i64 un] w fun e w' => e = .returned (.tuple #[jobV (leaseP j wk tk un).1, .int .i64 (leaseP j wk tk un).2]) ∧ Below w.heap.size w w' := by
  have HC : Hid (∀ w', Below w.heap.size w w' → Calls Tryd.prog 14 #[jobV j] w' fun e w'' => e = .returned (.int .i64 (chkJ j)) ∧ Below w'.heap.size w' w'') := fun w' hb => checkE_job j hj w' (he.up hb)
  have HH := hid (holds_any wk tk un)
  have HB := hid (become_any j 2 0 j.tr wk tk un)
  have LP : Hid (leaseP j wk tk un = if chkJ j ≠ 0 then (jb0, 9) else if j.st ≠ 1 then (jb0, 81) else if hldP wk tk un then (becP j 2 0 j.tr wk tk un, 0) else (jb0, 4)) := rfl
  obtain ⟨q0, q1, q2⟩ := boxes2 w (jobC j) (jobC jb0) 27 27
  have B0 := hid q0
  have R0 := hid q1
  have U0 := hid q2
  unfold jobC jb0 at U0 B0 R0
  clear q0 q1 q2 hj he
  unfold jobV at HC HB
  unfold becP hldV at HB
  unfold hldV at HH
  dsimp only at HB
  rw [jobV_form]
  unfold jobC
  obtain ⟨L, hL⟩ : ∃ L, L = leaseP j wk tk un := ⟨_, rfl⟩
  rw [← hL] at LP ⊢
  clear hL
  have c2 := chkJ_two j
  generalize chkJ j = C at *
  generalize hldP wk tk un = H at *
  go_enter Tryd.func17, Tryd.ntmps17
  go_wp2_with fail
  refine (HC.out _ U0.out).mono ?_
  rintro e w1 ⟨rfl, hb1⟩
  have B1 := hid (blk_up B0.out hb1)
  have R1 := hid (blk_up R0.out hb1)
  have U1 := hid (up_trans U0.out hb1)
  clear hb1 B0 R0 U0 HC
  rcases c2 with rfl | rfl
  rotate_left
  · have E : Hid (L = (jb0, 9)) := LP.out.trans (if_pos (by decide))
    clear HH HB LP
    have rf0 := blk_frozen R1.out 0
    have rf1 := blk_frozen R1.out 1
    have rf2 := blk_frozen R1.out 2
    have rf3 := blk_frozen R1.out 3
    have rf4 := blk_frozen R1.out 4
    have rf5 := blk_frozen R1.out 5
    have rf6 := blk_frozen R1.out 6
    have rf7 := blk_frozen R1.out 7
    have rf8 := blk_frozen R1.out 8
    have rf9 := blk_frozen R1.out 9
    have ry0 := blk_cell R1.out 0 _ rfl
    have ry1 := blk_cell R1.out 1 _ rfl
    have ry2 := blk_cell R1.out 2 _ rfl
    have ry3 := blk_cell R1.out 3 _ rfl
    have ry4 := blk_cell R1.out 4 _ rfl
    have ry5 := blk_cell R1.out 5 _ rfl
    have ry6 := blk_cell R1.out 6 _ rfl
    have ry7 := blk_cell R1.out 7 _ rfl
    have ry8 := blk_cell R1.out 8 _ rfl
    have ry9 := blk_cell R1.out 9 _ rfl
    have FB := hid (set10_blk R1.out (.int .i64 0) (.string { data := #[] }) (.string { data := #[] }) (.string { data := #[] }) (.int .i64 0) (.int .i64 0) (.int .i64 0) (.int .i64 0) (.int .i64 0) (.int .i64 0))
    have FG := hid (set10_grown w1 (w.heap.size + 1) (.int .i64 0) (.string { data := #[] }) (.string { data := #[] }) (.string { data := #[] }) (.int .i64 0) (.int .i64 0) (.int .i64 0) (.int .i64 0) (.int .i64 0) (.int .i64 0))
    go_wp2_with fail
    refine bodyPost_ret (results_qob2 rfl _ _ rfl FB.out) rfl ?_
    exact ⟨by rw [E.out]; rfl, U1.out.grown FG.out U1.out.size (fun k hk => by simp at hk; omega)⟩
  have LP2 := hid (LP.out.trans (if_neg (by decide)))
  clear LP
  by_cases hs : j.st = 1
  rotate_left
  · have hs1 : (j.st != 1) = true := by simpa using hs
    have E : Hid (L = (jb0, 81)) := LP2.out.trans (if_pos hs)
    clear HH HB LP2 hs
    have x0 := blk_cell B1.out 0 _ rfl
    have x1 := blk_cell B1.out 1 _ rfl
    have x2 := blk_cell B1.out 2 _ rfl
    have x3 := blk_cell B1.out 3 _ rfl
    have x4 := blk_cell B1.out 4 _ rfl
    have x5 := blk_cell B1.out 5 _ rfl
    have x6 := blk_cell B1.out 6 _ rfl
    have x7 := blk_cell B1.out 7 _ rfl
    have x8 := blk_cell B1.out 8 _ rfl
    have x9 := blk_cell B1.out 9 _ rfl
    have rf0 := blk_frozen R1.out 0
    have rf1 := blk_frozen R1.out 1
    have rf2 := blk_frozen R1.out 2
    have rf3 := blk_frozen R1.out 3
    have rf4 := blk_frozen R1.out 4
    have rf5 := blk_frozen R1.out 5
    have rf6 := blk_frozen R1.out 6
    have rf7 := blk_frozen R1.out 7
    have rf8 := blk_frozen R1.out 8
    have rf9 := blk_frozen R1.out 9
    have ry0 := blk_cell R1.out 0 _ rfl
    have ry1 := blk_cell R1.out 1 _ rfl
    have ry2 := blk_cell R1.out 2 _ rfl
    have ry3 := blk_cell R1.out 3 _ rfl
    have ry4 := blk_cell R1.out 4 _ rfl
    have ry5 := blk_cell R1.out 5 _ rfl
    have ry6 := blk_cell R1.out 6 _ rfl
    have ry7 := blk_cell R1.out 7 _ rfl
    have ry8 := blk_cell R1.out 8 _ rfl
    have ry9 := blk_cell R1.out 9 _ rfl
    have FB := hid (set10_blk R1.out (.int .i64 0) (.string { data := #[] }) (.string { data := #[] }) (.string { data := #[] }) (.int .i64 0) (.int .i64 0) (.int .i64 0) (.int .i64 0) (.int .i64 0) (.int .i64 0))
    have FG := hid (set10_grown w1 (w.heap.size + 1) (.int .i64 0) (.string { data := #[] }) (.string { data := #[] }) (.string { data := #[] }) (.int .i64 0) (.int .i64 0) (.int .i64 0) (.int .i64 0) (.int .i64 0) (.int .i64 0))
    go_wp2_with fail
    refine bodyPost_ret (results_qob2 rfl _ _ rfl FB.out) rfl ?_
    exact ⟨by rw [E.out]; rfl, U1.out.grown FG.out U1.out.size (fun k hk => by simp at hk; omega)⟩
  have hs1 : (j.st != 1) = false := by simpa using hs
  have LP3 := hid (LP2.out.trans (if_neg (by simpa using hs)))
  clear LP2 hs
  have x4 := blk_cell B1.out 4 _ rfl
  go_wp2_with fail
  clear x4
  refine (HH.out _).mono ?_
  rintro e w2 ⟨rfl, hb2⟩
  have B2 := hid (blk_up (blk_up B1.out (up_alloc w1 (.cells #[.int .i64 wk, .int .i64 tk, .int .i64 un] 83))) hb2)
  have R2 := hid (blk_up (blk_up R1.out (up_alloc w1 (.cells #[.int .i64 wk, .int .i64 tk, .int .i64 un] 83))) hb2)
  have K2 := hid (blk_up (blk_new w1 (.cells #[.int .i64 wk, .int .i64 tk, .int .i64 un] 83)) hb2)
  have U2 := hid (up_trans (up_al U1.out (.cells #[.int .i64 wk, .int .i64 tk, .int .i64 un] 83)) hb2)
  clear hb2 B1 R1 U1 HH
  cases H
  · have E : Hid (L = (jb0, 4)) := LP3.out
    clear HB LP3
    have rf0 := blk_frozen R2.out 0
    have rf1 := blk_frozen R2.out 1
    have rf2 := blk_frozen R2.out 2
    have rf3 := blk_frozen R2.out 3
    have rf4 := blk_frozen R2.out 4
    have rf5 := blk_frozen R2.out 5
    have rf6 := blk_frozen R2.out 6
    have rf7 := blk_frozen R2.out 7
    have rf8 := blk_frozen R2.out 8
    have rf9 := blk_frozen R2.out 9
    have ry0 := blk_cell R2.out 0 _ rfl
    have ry1 := blk_cell R2.out 1 _ rfl
    have ry2 := blk_cell R2.out 2 _ rfl
    have ry3 := blk_cell R2.out 3 _ rfl
    have ry4 := blk_cell R2.out 4 _ rfl
    have ry5 := blk_cell R2.out 5 _ rfl
    have ry6 := blk_cell R2.out 6 _ rfl
    have ry7 := blk_cell R2.out 7 _ rfl
    have ry8 := blk_cell R2.out 8 _ rfl
    have ry9 := blk_cell R2.out 9 _ rfl
    have FB := hid (set10_blk R2.out (.int .i64 0) (.string { data := #[] }) (.string { data := #[] }) (.string { data := #[] }) (.int .i64 0) (.int .i64 0) (.int .i64 0) (.int .i64 0) (.int .i64 0) (.int .i64 0))
    have FG := hid (set10_grown w2 (w.heap.size + 1) (.int .i64 0) (.string { data := #[] }) (.string { data := #[] }) (.string { data := #[] }) (.int .i64 0) (.int .i64 0) (.int .i64 0) (.int .i64 0) (.int .i64 0) (.int .i64 0))
    go_wp2_with fail
    refine bodyPost_ret (results_qob2 rfl _ _ rfl FB.out) rfl ?_
    exact ⟨by rw [E.out]; rfl, U2.out.grown FG.out U2.out.size (fun k hk => by simp at hk; omega)⟩
  have E : Hid (L = (becP j 2 0 j.tr wk tk un, 0)) := LP3.out
  clear LP3
  have x0 := blk_cell B2.out 0 _ rfl
  have x1 := blk_cell B2.out 1 _ rfl
  have x2 := blk_cell B2.out 2 _ rfl
  have x3 := blk_cell B2.out 3 _ rfl
  have x4 := blk_cell B2.out 4 _ rfl
  have x5 := blk_cell B2.out 5 _ rfl
  have x6 := blk_cell B2.out 6 _ rfl
  have x7 := blk_cell B2.out 7 _ rfl
  have x8 := blk_cell B2.out 8 _ rfl
  have x9 := blk_cell B2.out 9 _ rfl
  have k0 := blk_cell K2.out 0 _ rfl
  have k1 := blk_cell K2.out 1 _ rfl
  have k2 := blk_cell K2.out 2 _ rfl
  go_wp2_with fail
  refine (HB.out _).mono ?_
  rintro e w3 ⟨rfl, hb3⟩
  have R3 := hid (blk_up R2.out hb3)
  have U3 := hid (up_trans U2.out hb3)
  clear hb3 R2 U2 B2 K2 HB x0 x1 x2 x3 x4 x5 x6 x7 x8 x9 k0 k1 k2
  have rf0 := blk_frozen R3.out 0
  have rf1 := blk_frozen R3.out 1
  have rf2 := blk_frozen R3.out 2
  have rf3 := blk_frozen R3.out 3
  have rf4 := blk_frozen R3.out 4
  have rf5 := blk_frozen R3.out 5
  have rf6 := blk_frozen R3.out 6
  have rf7 := blk_frozen R3.out 7
  have rf8 := blk_frozen R3.out 8
  have rf9 := blk_frozen R3.out 9
  have ry0 := blk_cell R3.out 0 _ rfl
  have ry1 := blk_cell R3.out 1 _ rfl
  have ry2 := blk_cell R3.out 2 _ rfl
  have ry3 := blk_cell R3.out 3 _ rfl
  have ry4 := blk_cell R3.out 4 _ rfl
  have ry5 := blk_cell R3.out 5 _ rfl
  have ry6 := blk_cell R3.out 6 _ rfl
  have ry7 := blk_cell R3.out 7 _ rfl
  have ry8 := blk_cell R3.out 8 _ rfl
  have ry9 := blk_cell R3.out 9 _ rfl
  have FB := hid (set10_blk R3.out (.int .i64 j.id) (.string (strOfNums j.na)) (.string (strOfNums j.ru)) (.string (strOfNums j.pa)) (.int .i64 2) (.int .i64 0) (.int .i64 j.tr) (.int .i64 wk) (.int .i64 tk) (.int .i64 un))
  have FG := hid (set10_grown w3 (w.heap.size + 1) (.int .i64 j.id) (.string (strOfNums j.na)) (.string (strOfNums j.ru)) (.string (strOfNums j.pa)) (.int .i64 2) (.int .i64 0) (.int .i64 j.tr) (.int .i64 wk) (.int .i64 tk) (.int .i64 un))
  go_wp2_with fail
  refine bodyPost_ret (results_qob2 rfl _ _ rfl FB.out) rfl ?_
  exact ⟨by rw [E.out]; rfl, U3.out.grown FG.out U3.out.size (fun k hk => by simp at hk; omega)⟩
theorem finishP_recur (j : Jb) (now : Int) : finishP j now = if chkJ j ≠ 0 then (jb0, false, 9) else if mayP j now ≠ 0 then (jb0, false, mayP j now) else ((recurP j now).1, (recurP j now).2, 0) := by
  by_cases h : chkJ j = 0
  · have e := recur_again h now
    unfold finishP mayP
    rw [e]
    by_cases hs : j.st = 2
    · cases inB now 0 32503679999 <;> cases (againP j now).2 <;> simp [h, hs]
    · simp [h, hs]
  · unfold finishP
    simp [h]
theorem mayP_three (j : Jb) (now : Int) : mayP j now = 0 ∨ mayP j now = 4 ∨ mayP j now = 81 := by
  unfold mayP
  split
  · exact .inr (.inr rfl)
  · split
    · exact .inl rfl
    · exact .inr (.inl rfl)
set_option maxHeartbeats 4000000 in
set_option maxRecDepth 20000 in
theorem finishE_any (j : Jb) (hj : j.ok) (now : Int) (w : World) (he : Env w) : Calls Tryd.prog 21 #[jobV j, .int .i64 now] w fun e w' => e = .returned (.tuple #[jobV (finishP j now).1, .bool (finishP j now).2.1, .int .i64 (finishP j now).2.2]) ∧ Below w.heap.size w w' := by
  have HC : Hid (∀ w', Below w.heap.size w w' → Calls Tryd.prog 14 #[jobV j] w' fun e w'' => e = .returned (.int .i64 (chkJ j)) ∧ Below w'.heap.size w' w'') := fun w' hb => checkE_job j hj w' (he.up hb)
  have HM := hid (mayEnd_any j now)
  have HR : Hid (∀ w', Below w.heap.size w w' → Calls Tryd.prog 44 #[jobV j, .int .i64 now] w' fun e w'' => e = .returned (.tuple #[jobV (recurP j now).1, .bool (recurP j now).2]) ∧ Below w'.heap.size w' w'') := fun w' hb => recur_any j hj.ru now w' (he.up hb)
  have LP := hid (finishP_recur j now)
  obtain ⟨q0, q1, q2⟩ := boxes2 w (jobC j) (jobC jb0) 27 27
  have B0 := hid q0
  have R0 := hid q1
  have U0 := hid q2
  unfold jobC jb0 at U0 B0 R0
  clear q0 q1 q2 hj he
  obtain ⟨K, hK⟩ : ∃ K, K = (recurP j now).1 := ⟨_, rfl⟩
  rw [← hK] at HR LP
  clear hK
  generalize (recurP j now).2 = is at *
  unfold jobV at HC HM HR
  rw [jobV_form]
  unfold jobC
  obtain ⟨L, hL⟩ : ∃ L, L = finishP j now := ⟨_, rfl⟩
  rw [← hL] at LP ⊢
  clear hL
  have c2 := chkJ_two j
  generalize chkJ j = C at *
  have m3 := mayP_three j now
  generalize mayP j now = M at *
  go_enter Tryd.func21, Tryd.ntmps21
  go_wp2_with fail
  refine (HC.out _ U0.out).mono ?_
  rintro e w1 ⟨rfl, hb1⟩
  have B1 := hid (blk_up B0.out hb1)
  have R1 := hid (blk_up R0.out hb1)
  have U1 := hid (up_trans U0.out hb1)
  clear hb1 B0 R0 U0 HC
  rcases c2 with rfl | rfl
  rotate_left
  · have E : Hid (L = (jb0, false, 9)) := LP.out.trans (if_pos (by decide))
    clear HM HR LP m3
    have rf0 := blk_frozen R1.out 0
    have rf1 := blk_frozen R1.out 1
    have rf2 := blk_frozen R1.out 2
    have rf3 := blk_frozen R1.out 3
    have rf4 := blk_frozen R1.out 4
    have rf5 := blk_frozen R1.out 5
    have rf6 := blk_frozen R1.out 6
    have rf7 := blk_frozen R1.out 7
    have rf8 := blk_frozen R1.out 8
    have rf9 := blk_frozen R1.out 9
    have ry0 := blk_cell R1.out 0 _ rfl
    have ry1 := blk_cell R1.out 1 _ rfl
    have ry2 := blk_cell R1.out 2 _ rfl
    have ry3 := blk_cell R1.out 3 _ rfl
    have ry4 := blk_cell R1.out 4 _ rfl
    have ry5 := blk_cell R1.out 5 _ rfl
    have ry6 := blk_cell R1.out 6 _ rfl
    have ry7 := blk_cell R1.out 7 _ rfl
    have ry8 := blk_cell R1.out 8 _ rfl
    have ry9 := blk_cell R1.out 9 _ rfl
    have FB := hid (set10_blk R1.out (.int .i64 0) (.string { data := #[] }) (.string { data := #[] }) (.string { data := #[] }) (.int .i64 0) (.int .i64 0) (.int .i64 0) (.int .i64 0) (.int .i64 0) (.int .i64 0))
    have FG := hid (set10_grown w1 (w.heap.size + 1) (.int .i64 0) (.string { data := #[] }) (.string { data := #[] }) (.string { data := #[] }) (.int .i64 0) (.int .i64 0) (.int .i64 0) (.int .i64 0) (.int .i64 0) (.int .i64 0))
    go_wp2_with fail
    refine bodyPost_ret (results_qob3 rfl _ _ rfl FB.out) rfl ?_
    exact ⟨by rw [E.out]; rfl, U1.out.grown FG.out U1.out.size (fun k hk => by simp at hk; omega)⟩
  have LP2 := hid (LP.out.trans (if_neg (by decide)))
  clear LP
  have x0 := blk_cell B1.out 0 _ rfl
  have x1 := blk_cell B1.out 1 _ rfl
  have x2 := blk_cell B1.out 2 _ rfl
  have x3 := blk_cell B1.out 3 _ rfl
  have x4 := blk_cell B1.out 4 _ rfl
  have x5 := blk_cell B1.out 5 _ rfl
  have x6 := blk_cell B1.out 6 _ rfl
  have x7 := blk_cell B1.out 7 _ rfl
  have x8 := blk_cell B1.out 8 _ rfl
  have x9 := blk_cell B1.out 9 _ rfl
  go_wp2_with fail
  refine (HM.out _).mono ?_
  rintro e w2 ⟨rfl, hb2⟩
  have B2 := hid (blk_up B1.out hb2)
  have R2 := hid (blk_up R1.out hb2)
  have U2 := hid (up_trans U1.out hb2)
  clear hb2 B1 R1 U1 HM x0 x1 x2 x3 x4 x5 x6 x7 x8 x9
  by_cases hm : M = 0
  rotate_left
  · have m1 : (M != 0) = true := by simpa using hm
    have E : Hid (L = (jb0, false, M)) := LP2.out.trans (if_pos hm)
    clear HR LP2 m3 hm
    have rf0 := blk_frozen R2.out 0
    have rf1 := blk_frozen R2.out 1
    have rf2 := blk_frozen R2.out 2
    have rf3 := blk_frozen R2.out 3
    have rf4 := blk_frozen R2.out 4
    have rf5 := blk_frozen R2.out 5
    have rf6 := blk_frozen R2.out 6
    have rf7 := blk_frozen R2.out 7
    have rf8 := blk_frozen R2.out 8
    have rf9 := blk_frozen R2.out 9
    have ry0 := blk_cell R2.out 0 _ rfl
    have ry1 := blk_cell R2.out 1 _ rfl
    have ry2 := blk_cell R2.out 2 _ rfl
    have ry3 := blk_cell R2.out 3 _ rfl
    have ry4 := blk_cell R2.out 4 _ rfl
    have ry5 := blk_cell R2.out 5 _ rfl
    have ry6 := blk_cell R2.out 6 _ rfl
    have ry7 := blk_cell R2.out 7 _ rfl
    have ry8 := blk_cell R2.out 8 _ rfl
    have ry9 := blk_cell R2.out 9 _ rfl
    have FB := hid (set10_blk R2.out (.int .i64 0) (.string { data := #[] }) (.string { data := #[] }) (.string { data := #[] }) (.int .i64 0) (.int .i64 0) (.int .i64 0) (.int .i64 0) (.int .i64 0) (.int .i64 0))
    have FG := hid (set10_grown w2 (w.heap.size + 1) (.int .i64 0) (.string { data := #[] }) (.string { data := #[] }) (.string { data := #[] }) (.int .i64 0) (.int .i64 0) (.int .i64 0) (.int .i64 0) (.int .i64 0) (.int .i64 0))
    go_wp2_with fail
    refine bodyPost_ret (results_qob3 rfl _ _ rfl FB.out) rfl ?_
    exact ⟨by rw [E.out]; rfl, U2.out.grown FG.out U2.out.size (fun k hk => by simp at hk; omega)⟩
  subst hm
  have E : Hid (L = (K, is, 0)) := LP2.out.trans (if_neg (by decide))
  clear LP2 m3
  have x0 := blk_cell B2.out 0 _ rfl
  have x1 := blk_cell B2.out 1 _ rfl
  have x2 := blk_cell B2.out 2 _ rfl
  have x3 := blk_cell B2.out 3 _ rfl
  have x4 := blk_cell B2.out 4 _ rfl
  have x5 := blk_cell B2.out 5 _ rfl
  have x6 := blk_cell B2.out 6 _ rfl
  have x7 := blk_cell B2.out 7 _ rfl
  have x8 := blk_cell B2.out 8 _ rfl
  have x9 := blk_cell B2.out 9 _ rfl
  go_wp2_with fail
  refine (HR.out _ U2.out).mono ?_
  rintro e w3 ⟨rfl, hb3⟩
  have KB := hid (blk_new w3 (.cells (jobC K) 27))
  have R3 := hid (blk_up (blk_up R2.out hb3) (up_alloc w3 (.cells (jobC K) 27)))
  have U3 := hid (up_al (up_trans U2.out hb3) (.cells (jobC K) 27))
  unfold jobC at KB R3 U3
  clear hb3 R2 U2 B2 HR x0 x1 x2 x3 x4 x5 x6 x7 x8 x9
  have y0 := blk_cell KB.out 0 _ rfl
  have y1 := blk_cell KB.out 1 _ rfl
  have y2 := blk_cell KB.out 2 _ rfl
  have y3 := blk_cell KB.out 3 _ rfl
  have y4 := blk_cell KB.out 4 _ rfl
  have y5 := blk_cell KB.out 5 _ rfl
  have y6 := blk_cell KB.out 6 _ rfl
  have y7 := blk_cell KB.out 7 _ rfl
  have y8 := blk_cell KB.out 8 _ rfl
  have y9 := blk_cell KB.out 9 _ rfl
  have rf0 := blk_frozen R3.out 0
  have rf1 := blk_frozen R3.out 1
  have rf2 := blk_frozen R3.out 2
  have rf3 := blk_frozen R3.out 3
  have rf4 := blk_frozen R3.out 4
  have rf5 := blk_frozen R3.out 5
  have rf6 := blk_frozen R3.out 6
  have rf7 := blk_frozen R3.out 7
  have rf8 := blk_frozen R3.out 8
  have rf9 := blk_frozen R3.out 9
  have ry0 := blk_cell R3.out 0 _ rfl
  have ry1 := blk_cell R3.out 1 _ rfl
  have ry2 := blk_cell R3.out 2 _ rfl
  have ry3 := blk_cell R3.out 3 _ rfl
  have ry4 := blk_cell R3.out 4 _ rfl
  have ry5 := blk_cell R3.out 5 _ rfl
  have ry6 := blk_cell R3.out 6 _ rfl
  have ry7 := blk_cell R3.out 7 _ rfl
  have ry8 := blk_cell R3.out 8 _ rfl
  have ry9 := blk_cell R3.out 9 _ rfl
  have FB := hid (set10_blk R3.out (.int .i64 K.id) (.string (strOfNums K.na)) (.string (strOfNums K.ru)) (.string (strOfNums K.pa)) (.int .i64 K.st) (.int .i64 K.du) (.int .i64 K.tr) (.int .i64 K.wk) (.int .i64 K.tk) (.int .i64 K.un))
  have FG := hid (set10_grown (w3.alloc (.cells #[.int .i64 K.id, .string (strOfNums K.na), .string (strOfNums K.ru), .string (strOfNums K.pa), .int .i64 K.st, .int .i64 K.du, .int .i64 K.tr, .int .i64 K.wk, .int .i64 K.tk, .int .i64 K.un] 27)) (w.heap.size + 1) (.int .i64 K.id) (.string (strOfNums K.na)) (.string (strOfNums K.ru)) (.string (strOfNums K.pa)) (.int .i64 K.st) (.int .i64 K.du) (.int .i64 K.tr) (.int .i64 K.wk) (.int .i64 K.tk) (.int .i64 K.un))
  go_wp2_with fail
  refine bodyPost_ret (results_qob3 rfl _ _ rfl FB.out) rfl ?_
  exact ⟨by rw [E.out]; rfl, U3.out.grown FG.out U3.out.size (fun k hk => by simp at hk; omega)⟩
end Go.Proofs.YtpjmieiajhhbaaaDoor
