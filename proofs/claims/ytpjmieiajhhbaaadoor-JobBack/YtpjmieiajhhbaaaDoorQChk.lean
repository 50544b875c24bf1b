/- Jobs: the program's Check. -/
import Derived.Test.YtpjmieiajhhbaaaDoorQLeaf
import Derived.Test.YtpjmieiajhhbaaaDoorDParse
namespace Go.Proofs.YtpjmieiajhhbaaaDoor
open Go.RowKit
set_option linter.unusedVariables false
set_option linter.unusedSimpArgs false

def txtP (j : Jb) : Bool := !decide (32 < j.na.length) && (!decide (200 < j.ru.length) && (!decide (200 < j.pa.length) && (decide (j.ru = []) || (parseR j.ru).2 == 0)))
def frP (j : Jb) : Bool := inB j.du 0 32503680000 && (j.wk == 0 && (j.tk == 0 && j.un == 0))
def staP (j : Jb) : Bool := if j.st = 2 then (j.du == 0 && hldP j.wk j.tk j.un) else if j.st = 3 then (decide (j.ru = []) && frP j) else if j.st = 1 then frP j else false
theorem chk_b2 (a0 a1 a2 a5 a6 r p d z hw ht hu w0 t0 u0 : Bool) (er : r = true → a6 = false) (ez : z = true → d = true) :
    ((a0 && (!a1 && (!a2 && (true && (d && a5))))) && ((r || (p && (!false && !a6))) && (!(true && !(hw && (ht && (hu && z)))) && !(!true && (!w0 || (!t0 || !u0)))))) = (a0 && (a5 && ((!a1 && (!a6 && (!a2 && (r || p)))) && (z && (hw && (ht && hu)))))) := by
  cases a0 <;> cases a5 <;> cases a1 <;> cases a2 <;> cases r <;> cases z <;> simp_all
  all_goals (cases p <;> cases a6 <;> cases hw <;> cases ht <;> cases hu <;> simp_all)
theorem chk_b3 (a0 a1 a2 a5 a6 r p d w0 t0 u0 z hw ht hu : Bool) (er : r = true → a6 = false) :
    ((a0 && (!a1 && (!a2 && (true && (d && a5))))) && ((r || (p && (!true && !a6))) && (!(false && !(hw && (ht && (hu && z)))) && !(!false && (!w0 || (!t0 || !u0)))))) = (a0 && (a5 && ((!a1 && (!a6 && (!a2 && (r || p)))) && (r && (d && (w0 && (t0 && u0))))))) := by
  cases a0 <;> cases a5 <;> cases a1 <;> cases a2 <;> cases r <;> cases d <;> simp_all
theorem chk_b1 (a0 a1 a2 a5 a6 r p d w0 t0 u0 z hw ht hu : Bool) (er : r = true → a6 = false) :
    ((a0 && (!a1 && (!a2 && (true && (d && a5))))) && ((r || (p && (!false && !a6))) && (!(false && !(hw && (ht && (hu && z)))) && !(!false && (!w0 || (!t0 || !u0)))))) = (a0 && (a5 && ((!a1 && (!a6 && (!a2 && (r || p)))) && (d && (w0 && (t0 && u0)))))) := by
  cases a0 <;> cases a5 <;> cases a1 <;> cases a2 <;> cases r <;> cases d <;> simp_all
  all_goals (cases p <;> cases a6 <;> cases w0 <;> cases t0 <;> cases u0 <;> simp_all)

theorem chk_eq (j : Jb) : (chkA j && (chkR j && chkL j)) = (inB j.id 1 1099511627776 && (inB j.tr 0 16 && (txtP j && staP j))) := by
  have er : decide (j.ru = []) = true → decide (200 < j.ru.length) = false := by intro h; rw [of_decide_eq_true h]; rfl
  have ez : (j.du == 0) = true → inB j.du 0 32503680000 = true := by
    intro h
    have h : j.du = 0 := by simpa using h
    rw [h]
    decide
  unfold chkA chkR chkL chkH txtP staP frP hldP
  by_cases h2 : j.st = 2
  · rw [h2, if_pos rfl]
    exact chk_b2 _ _ _ _ _ _ _ _ _ _ _ _ _ _ _ er ez
  rw [if_neg h2]
  have e2 : (j.st == 2) = false := by simpa using h2
  by_cases h3 : j.st = 3
  · rw [h3, if_pos rfl]
    exact chk_b3 _ _ _ _ _ _ _ _ _ _ _ _ _ _ _ er
  rw [if_neg h3]
  have e3 : (j.st == 3) = false := by simpa using h3
  by_cases h1 : j.st = 1
  · rw [h1, if_pos rfl]
    exact chk_b1 _ _ _ _ _ _ _ _ _ _ _ _ _ _ _ er
  rw [if_neg h1]
  have ei : inB j.st 1 3 = false := by
    cases e : inB j.st 1 3
    · rfl
    · have := inB_iff.1 e; omega
  rw [ei]
  simp
theorem chkJ_other (j : Jb) : chkJ j = if inB j.id 1 1099511627776 && (inB j.tr 0 16 && (txtP j && staP j)) then 0 else 9 := by
  unfold chkJ
  rw [chk_eq]
theorem cells_strJ : Tryd.prog.cellsOf 9 = 1 := by kernel_rfl
theorem at_str3 (a b c : Value) (k : Nat) (v : Value) (h : ([a, b, c] : List Value)[k]? = some v) (w : World) : (Instr.index 68 (.agg #[a, b, c]) (.int .i64 (k : Int))).run Tryd.prog w = .ok v w := by
  have hk : k < 3 := (List.getElem?_eq_some_iff.1 h).1
  have p : ∀ j v, (#[a, b, c] : Array Value)[j]? = some v → (part 9 #[a, b, c] j).run Tryd.prog w = .ok v w := fun j v h => run_part_plain w (by kernel_rfl) h
  have p0 := p 0 _ rfl
  have p1 := p 1 _ rfl
  have p2 := p 2 _ rfl
  match k, hk, h with
  | 0, _, h =>
    cases h
    simp [Instr.index, run_underlying Tryd.underlying68, asIntOf, cells_strJ, go_sem]
  | 1, _, h =>
    cases h
    simp [Instr.index, run_underlying Tryd.underlying68, asIntOf, cells_strJ, go_sem]
  | 2, _, h =>
    cases h
    simp [Instr.index, run_underlying Tryd.underlying68, asIntOf, cells_strJ, go_sem]
set_option maxHeartbeats 4000000 in
set_option maxRecDepth 20000 in
theorem texts_any (j : Jb) (hj : j.ok) (w : World) (he : Env w) : Calls Tryd.prog 37 #[jobV j] w fun e w' => e = .returned (.bool (txtP j)) ∧ Below w.heap.size w w' := by
  have HT := hid (textsOf_any j)
  have HP : Hid (∀ w', Below w.heap.size w w' → Calls Tryd.prog 63 #[.string (strOfNums j.ru)] w' fun e w'' => e = .returned (.tuple #[ruV (parseR j.ru).1, .int .i64 (parseR j.ru).2]) ∧ Below w'.heap.size w' w'') := fun w' hb => parse_any j.ru hj.ru.1 hj.ru.2 w' (he.up hb)
  have HC : Hid (txtP j = (!decide (32 < j.na.length) && (!decide (200 < j.ru.length) && (!decide (200 < j.pa.length) && (decide (j.ru = []) || (parseR j.ru).2 == 0))))) := rfl
  have zr := empty_eq j.ru hj.ru.1
  have sn := strOfNums_size j.na
  have sr := strOfNums_size j.ru
  have sp := strOfNums_size j.pa
  have mn := hj.na.2
  have mr := hj.ru.2
  have mp := hj.pa.2
  obtain ⟨q0, q1, q2⟩ := boxes2 w (jobC j) #[.int .i64 32, .int .i64 200, .int .i64 200] 27 116
  have B0 := hid q0
  have R0 := hid q1
  have U0 := hid q2
  unfold jobC at U0 B0 R0
  clear q0 q1 q2 hj he
  unfold jobV at HT
  rw [jobV_form]
  unfold jobC
  have ix0 : ∀ w, (Instr.index 68 (.agg #[.string (strOfNums j.na), .string (strOfNums j.ru), .string (strOfNums j.pa)]) (.int .i64 0)).run Tryd.prog w = .ok (.string (strOfNums j.na)) w := fun w => at_str3 _ _ _ 0 _ rfl w
  have ix1 : ∀ w, (Instr.index 68 (.agg #[.string (strOfNums j.na), .string (strOfNums j.ru), .string (strOfNums j.pa)]) (.int .i64 1)).run Tryd.prog w = .ok (.string (strOfNums j.ru)) w := fun w => at_str3 _ _ _ 1 _ rfl w
  have ix2 : ∀ w, (Instr.index 68 (.agg #[.string (strOfNums j.na), .string (strOfNums j.ru), .string (strOfNums j.pa)]) (.int .i64 2)).run Tryd.prog w = .ok (.string (strOfNums j.pa)) w := fun w => at_str3 _ _ _ 2 _ rfl w
  generalize txtP j = C at *
  obtain ⟨p2, hp2⟩ : ∃ p2, p2 = (parseR j.ru).2 := ⟨_, rfl⟩
  rw [← hp2] at HP HC
  clear hp2
  generalize (parseR j.ru).1 = p1 at *
  obtain ⟨z, hz⟩ : ∃ z, z = decide (j.ru = []) := ⟨_, rfl⟩
  rw [← hz] at zr HC
  clear hz
  generalize strOfNums j.na = SN at *
  generalize strOfNums j.ru = SR at *
  generalize strOfNums j.pa = SP at *
  obtain ⟨ln, hln⟩ : ∃ ln, ln = j.na.length := ⟨_, rfl⟩
  obtain ⟨lr, hlr⟩ : ∃ lr, lr = j.ru.length := ⟨_, rfl⟩
  obtain ⟨lp, hlp⟩ : ∃ lp, lp = j.pa.length := ⟨_, rfl⟩
  rw [← hln] at sn mn HC
  rw [← hlr] at sr mr HC
  rw [← hlp] at sp mp HC
  clear hln hlr hlp
  rw [ruV_form] at HP
  go_enter Tryd.func37, Tryd.ntmps37
  go_wp2_with fail
  refine (HT.out _).mono ?_
  rintro e w1 ⟨rfl, hb1⟩
  have R1 := hid (blk_up R0.out hb1)
  have B1 := hid (blk_up B0.out hb1)
  have U1 := hid (up_trans U0.out hb1)
  clear hb1 R0 B0 U0 HT
  have t0 := blk_cell R1.out 0 _ rfl
  have t1 := blk_cell R1.out 1 _ rfl
  have t2 := blk_cell R1.out 2 _ rfl
  have xr := blk_cell B1.out 2 _ rfl
  have NO : Hid (C = false → (Ending.returned (.bool false) = Ending.returned (.bool C) ∧ Below w.heap.size w w1)) := fun h => ⟨by rw [h], U1.out⟩
  go_wp2_with fail
  refine wp_loop_rounds 4 ?_
  rw [rounds_succ]
  by_cases c1 : 32 < ln
  · have c1' : (32 : Int) < (ln : Int) := by omega
    have E : Hid (C = false) := by unfold Hid; rw [HC.out, decide_eq_true c1]; rfl
    go_wp2_with fail
    go_ret
    exact NO.out E.out
  have c1' : ¬ (32 : Int) < (ln : Int) := by omega
  go_wp2_with fail
  rw [rounds_succ]
  by_cases c2 : 200 < lr
  · have c2' : (200 : Int) < (lr : Int) := by omega
    have E : Hid (C = false) := by unfold Hid; rw [HC.out, decide_eq_true c2, decide_eq_false c1]; rfl
    go_wp2_with fail
    go_ret
    exact NO.out E.out
  have c2' : ¬ (200 : Int) < (lr : Int) := by omega
  go_wp2_with fail
  rw [rounds_succ]
  by_cases c3 : 200 < lp
  · have c3' : (200 : Int) < (lp : Int) := by omega
    have E : Hid (C = false) := by unfold Hid; rw [HC.out, decide_eq_true c3, decide_eq_false c2, decide_eq_false c1]; rfl
    go_wp2_with fail
    go_ret
    exact NO.out E.out
  have c3' : ¬ (200 : Int) < (lp : Int) := by omega
  have HD : Hid (C = (z || p2 == 0)) := by unfold Hid; rw [HC.out, decide_eq_false c1, decide_eq_false c2, decide_eq_false c3]; rfl
  go_wp2_with fail
  rw [rounds_succ]
  clear c1 c2 c3 HC
  cases z
  · go_wp2_with fail
    refine (HP.out _ U1.out).mono ?_
    rintro e w2 ⟨rfl, hb2⟩
    have U2 := hid (up_al (up_trans U1.out hb2) (.cells #[.int .u64 (p1.mi : Int), .int .u64 (p1.ho : Int), .int .u64 (p1.da : Int), .int .u64 (p1.mo : Int), .int .u64 (p1.we : Int), .bool p1.ad, .bool p1.aw] 117))
    clear hb2
    go_wp2_with fail
    go_ret
    exact ⟨by rw [HD.out]; rfl, U2.out⟩
  · go_wp2_with fail
    go_ret
    exact ⟨by rw [HD.out]; rfl, U1.out⟩
set_option maxHeartbeats 4000000 in
set_option maxRecDepth 20000 in
theorem status_any (j : Jb) (hj : TxtOk j.ru) (w : World) : Calls Tryd.prog 38 #[jobV j] w fun e w' => e = .returned (.bool (staP j)) ∧ Below w.heap.size w w' := by
  have HO := hid (holderOf_any j)
  have HH := hid (holds_any j.wk j.tk j.un)
  have HW := hid (withinE_any j.du 0 32503680000)
  have HC : Hid (staP j = if j.st = 2 then (j.du == 0 && hldP j.wk j.tk j.un) else if j.st = 3 then (decide (j.ru = []) && (inB j.du 0 32503680000 && (j.wk == 0 && (j.tk == 0 && j.un == 0)))) else if j.st = 1 then (inB j.du 0 32503680000 && (j.wk == 0 && (j.tk == 0 && j.un == 0))) else false) := rfl
  have zr := empty_eq j.ru hj.1
  have b0 := hid (blk_new w (.cells (jobC j) 27))
  have U0 := hid (up_alloc w (.cells (jobC j) 27))
  unfold jobC at b0 U0
  unfold jobV at HO
  unfold hldV at HO HH
  rw [jobV_form]
  unfold jobC
  clear hj
  generalize staP j = C at *
  generalize hldP j.wk j.tk j.un = H at *
  generalize inB j.du 0 32503680000 = D at *
  obtain ⟨z, hz⟩ : ∃ z, z = decide (j.ru = []) := ⟨_, rfl⟩
  rw [← hz] at zr HC
  clear hz
  generalize strOfNums j.na = SN at *
  generalize strOfNums j.ru = SR at *
  generalize strOfNums j.pa = SP at *
  generalize j.id = ji at *
  generalize j.st = js at *
  generalize j.du = jd at *
  generalize j.tr = jt at *
  generalize j.wk = jw at *
  generalize j.tk = jk at *
  generalize j.un = ju at *
  have FREE : Hid (∀ (s : Prop), C = (D && (jw == 0 && (jk == 0 && ju == 0))) → True) := fun _ _ => trivial
  by_cases h2 : js = 2
  · have s2 : (js == 2) = true := by simpa using h2
    have HD : Hid (C = (jd == 0 && H)) := HC.out.trans (if_pos h2)
    clear h2 HC zr HW FREE
    cases e0 : (jd == 0)
    · have E : Hid (C = false) := by unfold Hid; rw [HD.out, e0]; rfl
      go_enter Tryd.func38, Tryd.ntmps38
      go_wp2_with fail
      go_ret
      exact ⟨by rw [E.out]; rfl, U0.out⟩
    have E : Hid (C = H) := by unfold Hid; rw [HD.out, e0]; rfl
    go_enter Tryd.func38, Tryd.ntmps38
    go_wp2_with fail
    refine (HO.out _).mono ?_
    rintro e w1 ⟨rfl, hb1⟩
    have U1 := hid (up_trans U0.out hb1)
    clear hb1
    go_wp2_with fail
    refine (HH.out _).mono ?_
    rintro e w2 ⟨rfl, hb2⟩
    have U2 := hid (up_trans U1.out hb2)
    clear hb2
    go_wp2_with fail
    go_ret
    exact ⟨by rw [E.out]; rfl, U2.out⟩
  have s2 : (js == 2) = false := by simpa using h2
  have HC2 := hid (HC.out.trans (if_neg h2))
  clear HC h2 FREE HH
  obtain ⟨k7, hk7⟩ : ∃ k7, k7 = (jw == 0) := ⟨_, rfl⟩
  obtain ⟨k8, hk8⟩ : ∃ k8, k8 = (jk == 0) := ⟨_, rfl⟩
  obtain ⟨k9, hk9⟩ : ∃ k9, k9 = (ju == 0) := ⟨_, rfl⟩
  rw [← hk7, ← hk8, ← hk9] at HC2
  have m7 := hk7.symm
  have m8 := hk8.symm
  have m9 := hk9.symm
  have m7' : (0 == jw) = k7 := by rw [hk7]; exact BEq.comm
  have m8' : (0 == jk) = k8 := by rw [hk8]; exact BEq.comm
  have m9' : (0 == ju) = k9 := by rw [hk9]; exact BEq.comm
  clear hk7 hk8 hk9
  by_cases h3 : js = 3
  · have s3 : (js == 3) = true := by simpa using h3
    have HD := hid (HC2.out.trans (if_pos h3))
    clear h3 HC2
    cases z
    · have E : Hid (C = false) := HD.out
      go_enter Tryd.func38, Tryd.ntmps38
      go_wp2_with fail
      go_ret
      exact ⟨by rw [E.out]; rfl, U0.out⟩
    go_enter Tryd.func38, Tryd.ntmps38
    go_wp2_with fail
    refine (HW.out _).mono ?_
    rintro e w1 ⟨rfl, rfl⟩
    cases D
    · have E : Hid (C = false) := HD.out
      go_wp2_with fail
      go_ret
      exact ⟨by rw [E.out]; rfl, U0.out⟩
    go_wp2_with fail
    refine (HO.out _).mono ?_
    rintro e w1 ⟨rfl, hb1⟩
    have U1 := hid (up_trans U0.out hb1)
    clear hb1
    cases k7
    · have E : Hid (C = false) := HD.out
      go_wp2_with fail
      go_ret
      exact ⟨by rw [E.out]; rfl, U1.out⟩
    cases k8
    · have E : Hid (C = false) := HD.out
      go_wp2_with fail
      go_ret
      exact ⟨by rw [E.out]; rfl, U1.out⟩
    cases k9
    · have E : Hid (C = false) := HD.out
      go_wp2_with fail
      go_ret
      exact ⟨by rw [E.out]; rfl, U1.out⟩
    have E : Hid (C = true) := HD.out
    go_wp2_with fail
    go_ret
    exact ⟨by rw [E.out]; rfl, U1.out⟩
  have s3 : (js == 3) = false := by simpa using h3
  have HC3 := hid (HC2.out.trans (if_neg h3))
  clear HC2 h3
  by_cases h1 : js = 1
  · have s1 : (js == 1) = true := by simpa using h1
    have HD := hid (HC3.out.trans (if_pos h1))
    clear h1 HC3
    go_enter Tryd.func38, Tryd.ntmps38
    go_wp2_with fail
    refine (HW.out _).mono ?_
    rintro e w1 ⟨rfl, rfl⟩
    cases D
    · have E : Hid (C = false) := HD.out
      go_wp2_with fail
      go_ret
      exact ⟨by rw [E.out]; rfl, U0.out⟩
    go_wp2_with fail
    refine (HO.out _).mono ?_
    rintro e w1 ⟨rfl, hb1⟩
    have U1 := hid (up_trans U0.out hb1)
    clear hb1
    cases k7
    · have E : Hid (C = false) := HD.out
      go_wp2_with fail
      go_ret
      exact ⟨by rw [E.out]; rfl, U1.out⟩
    cases k8
    · have E : Hid (C = false) := HD.out
      go_wp2_with fail
      go_ret
      exact ⟨by rw [E.out]; rfl, U1.out⟩
    cases k9
    · have E : Hid (C = false) := HD.out
      go_wp2_with fail
      go_ret
      exact ⟨by rw [E.out]; rfl, U1.out⟩
    have E : Hid (C = true) := HD.out
    go_wp2_with fail
    go_ret
    exact ⟨by rw [E.out]; rfl, U1.out⟩
  have s1 : (js == 1) = false := by simpa using h1
  have E : Hid (C = false) := HC3.out.trans (if_neg h1)
  clear HC3 h1
  go_enter Tryd.func38, Tryd.ntmps38
  go_wp2_with fail
  go_ret
  exact ⟨by rw [E.out]; rfl, U0.out⟩
set_option maxHeartbeats 4000000 in
set_option maxRecDepth 20000 in
theorem checkE_job (j : Jb) (hj : j.ok) (w : World) (he : Env w) : Calls Tryd.prog 14 #[jobV j] w fun e w' => e = .returned (.int .i64 (chkJ j)) ∧ Below w.heap.size w w' := by
  have H0 := hid (withinE_any j.id 1 1099511627776)
  have H1 := hid (withinE_any j.tr 0 16)
  have H2 : Hid (∀ w', Below w.heap.size w w' → Calls Tryd.prog 37 #[jobV j] w' fun e w'' => e = .returned (.bool (txtP j)) ∧ Below w'.heap.size w' w'') := fun w' hb => texts_any j hj w' (he.up hb)
  have H3 := hid (status_any j hj.ru)
  have HC := hid (chkJ_other j)
  have b0 := hid (blk_new w (.cells (jobC j) 27))
  have U0 := hid (up_alloc w (.cells (jobC j) 27))
  unfold jobC at b0 U0
  unfold jobV at H2 H3
  rw [jobV_form]
  unfold jobC
  clear hj he
  generalize chkJ j = C at *
  generalize txtP j = T at *
  generalize staP j = S at *
  generalize inB j.id 1 1099511627776 = a at *
  generalize inB j.tr 0 16 = b at *
  go_enter Tryd.func14, Tryd.ntmps14
  go_wp2_with fail
  refine (H0.out _).mono ?_
  rintro e w1 ⟨rfl, rfl⟩
  cases a
  · have E : Hid (C = 9) := HC.out
    go_wp2_with fail
    go_ret
    exact ⟨by rw [E.out]; rfl, U0.out⟩
  go_wp2_with fail
  refine (H1.out _).mono ?_
  rintro e w1 ⟨rfl, rfl⟩
  cases b
  · have E : Hid (C = 9) := HC.out
    go_wp2_with fail
    go_ret
    exact ⟨by rw [E.out]; rfl, U0.out⟩
  go_wp2_with fail
  refine (H2.out _ U0.out).mono ?_
  rintro e w1 ⟨rfl, hb1⟩
  have U1 := hid (up_trans U0.out hb1)
  have B1 := hid (blk_up b0.out hb1)
  clear hb1
  cases T
  · have E : Hid (C = 9) := HC.out
    go_wp2_with fail
    go_ret
    exact ⟨by rw [E.out]; rfl, U1.out⟩
  have x0 := blk_cell B1.out 0 _ rfl
  have x1 := blk_cell B1.out 1 _ rfl
  have x2 := blk_cell B1.out 2 _ rfl
  have x3 := blk_cell B1.out 3 _ rfl
  have x4 := blk_cell B1.out 4 _ rfl
  have x5 := blk_cell B1.out 5 _ rfl
  have x6 := blk_cell B1.out 6 _ rfl
  have x7 := blk_cell B1.out 7 _ rfl
  have x8 := blk_cell B1.out 8 _ rfl
  have x9 := blk_cell B1.out 9 _ rfl
  go_wp2_with fail
  refine (H3.out _).mono ?_
  rintro e w2 ⟨rfl, hb2⟩
  have U2 := hid (up_trans U1.out hb2)
  clear hb2
  cases S
  · have E : Hid (C = 9) := HC.out
    go_wp2_with fail
    go_ret
    exact ⟨by rw [E.out]; rfl, U2.out⟩
  have E : Hid (C = 0) := HC.out
  go_wp2_with fail
  go_ret
  exact ⟨by rw [E.out]; rfl, U2.out⟩
end Go.Proofs.YtpjmieiajhhbaaaDoor
