/- The program's New, Do and Read. -/
import Derived.Test.YtoceddpjkodfkaaM1
namespace Go.Proofs.Ytoceddpjkodfkaa
open Go.RowKit
set_option linter.unusedVariables false
set_option linter.unusedSimpArgs false

def z0 : St := ⟨0, [], [], [], 0⟩

theorem OwnV.zero (w : World) (base : Nat) (c n : Int) (hc : In64 c) (hn : In64 n) : OwnV w base (.agg #[.int .i64 c, .slice none 0 0, .slice none 0 0, .slice none 0 0, .int .i64 n]) ⟨c, [], [], [], n⟩ :=
  ⟨_, _, _, [], rfl, rfl, ⟨OwnR.nil _ _ _ _, (fun y hy => by cases hy), List.Pairwise.nil⟩, OwnN.nil _ _ _, OwnN.nil _ _ _, .inl rfl, hc, hn⟩

theorem in64_0 : In64 0 := by unfold In64; omega

/-- A state through its own block, and a number. -/
theorem results_state1 {fn : Func} {r k : Nat} (h : fn.results = #[.cell r 33, .tmp k]) (tmps : Array Value) (w : World) {N : Nat} {a b c d e x : Value} (ht : tmps.getD r undef = .pointer (some ⟨N, 0, none⟩)) (hx : tmps.getD k undef = x)
    (hc : w.heap[N]? = some (.cells #[a, b, c, d, e] 33)) : (results fn tmps).run Try.prog w = .ok (.tuple #[.agg #[a, b, c, d, e], x]) w := by
  have c0 := blk_cell hc 0 a rfl
  have c1 := blk_cell hc 1 b rfl
  have c2 := blk_cell hc 2 c rfl
  have c3 := blk_cell hc 3 d rfl
  have c4 := blk_cell hc 4 e rfl
  have ht' : tmps[r]?.getD undef = .pointer (some ⟨N, 0, none⟩) := by simpa using ht
  have hx' : tmps[k]?.getD undef = x := by simpa using hx
  simp only [results, h]
  simp [ht', hx', go_sem, c0, c1, c2, c3, c4]

def newP (n : Int) : St × Int := if n < 0 ∨ 16777216 < n then (z0, 4) else (⟨n, [], [], [], 1⟩, 0)

theorem new_any (n : Int) (hn : In64 n) (w : World) :
    Calls Try.prog 28 #[.int .i64 n] w fun e w' => ∃ v', e = .returned (.tuple #[v', .int .i64 (newP n).2]) ∧ OwnV w' w.heap.size v' (newP n).1 ∧ Below w.heap.size w w' := by
  by_cases c1 : n < 0
  · have HR : Hid (newP n = (z0, 4)) := by unfold Hid newP; rw [if_pos (.inl c1)]
    go_enter Try.func28, Try.ntmps28
    go_wp2
    refine bodyPost_ret (results_state1 rfl _ _ rfl rfl (blk_new w _)) rfl ?_
    rw [HR.out]
    exact ⟨_, rfl, OwnV.zero _ _ 0 0 in64_0 in64_0, up_al (Below.refl _ _) _⟩
  · by_cases c2 : 16777216 < n
    · have HR : Hid (newP n = (z0, 4)) := by unfold Hid newP; rw [if_pos (.inr c2)]
      go_enter Try.func28, Try.ntmps28
      go_wp2
      refine bodyPost_ret (results_state1 rfl _ _ rfl rfl (blk_new w _)) rfl ?_
      rw [HR.out]
      exact ⟨_, rfl, OwnV.zero _ _ 0 0 in64_0 in64_0, up_al (Below.refl _ _) _⟩
    · have HR : Hid (newP n = (⟨n, [], [], [], 1⟩, 0)) := by unfold Hid newP; rw [if_neg (fun h => h.elim c1 c2)]
      go_enter Try.func28, Try.ntmps28
      go_wp2
      refine bodyPost_ret (results_state1 rfl _ _ rfl rfl (blk_new w _)) rfl ?_
      rw [HR.out]
      exact ⟨_, rfl, OwnV.zero _ _ n 1 hn (by unfold In64; omega), up_al (Below.refl _ _) _⟩

/-- What the program's Do answers. -/
def doP (s : St) (a : Ac) : St × Int := if checkP s then (if (actP s a).2 = 0 then actP s a else (z0, (actP s a).2)) else (z0, 9)

/-- What is owned but for the state's own block. -/
theorem OwnS.take {w : World} {base B : Nat} {s : St} (h : OwnS w base B s) : ∃ vf vn vs, w.heap[B]? = some (.cells #[.int .i64 s.cap, vf, vn, vs, .int .i64 s.next] 33) ∧ OwnV w base (.agg #[.int .i64 s.cap, vf, vn, vs, .int .i64 s.next]) s := by
  obtain ⟨_, vf, vn, vs, m, hb, hm, of, on, os, hap, hi1, hi2⟩ := h
  exact ⟨vf, vn, vs, hb, vf, vn, vs, m, rfl, hm, of, on, os, hap, hi1, hi2⟩

/-- A whole state is stored into a block of its kind. -/
theorem OwnV.put {w : World} {base : Nat} {s : St} {a b c d e : Value} (h : OwnV w base (.agg #[a, b, c, d, e]) s) {N : Nat} {x0 x1 x2 x3 x4 : Value} (hb : w.heap[N]? = some (.cells #[x0, x1, x2, x3, x4] 33)) :
    OwnS (set5 w N a b c d e) base N s ∧ OwnV (set5 w N a b c d e) base (.agg #[a, b, c, d, e]) s := by
  obtain ⟨vf, vn, vs, m, ev, hm, of, on, os, hap, hi1, hi2⟩ := h
  have g5 := set5_grown w N a b c d e
  have b5 := set5_blk hb a b c d e
  simp at ev
  obtain ⟨rfl, rfl, rfl, rfl, rfl⟩ := ev
  have of5 := of.far g5 (own_blk_ne of.1.2 hb (by decide)) (fun y hy => own_blk_ne (of.2.1 y hy).1 hb (by decide))
  have on5 := on.far g5 (own_blk_ne on.2.2 hb (by decide))
  have os5 := os.far g5 (own_blk_ne os.2.2 hb (by decide))
  exact ⟨⟨trivial, _, _, _, m, b5, hm, of5, on5, os5, hap, hi1, hi2⟩, ⟨_, _, _, m, rfl, hm, of5, on5, os5, hap, hi1, hi2⟩⟩

theorem OwnV.shape {w : World} {base : Nat} {v : Value} {s : St} (h : OwnV w base v s) : ∃ af nf cf an nn cn as' ns cs', v = .agg #[.int .i64 s.cap, .slice af nf cf, .slice an nn cn, .slice as' ns cs', .int .i64 s.next] := by
  obtain ⟨vf, vn, vs, m, rfl, hm, of, on, os, hap, hi1, hi2⟩ := h
  obtain ⟨a1, c1, e1, _, _⟩ := (NamesW.own on).len
  obtain ⟨a2, c2, e2, _, _⟩ := (NamesW.own os).len
  obtain ⟨a3, c3, e3, _, _⟩ := (Rws.own of.1).len
  subst e1
  subst e2
  subst e3
  exact ⟨_, _, _, _, _, _, _, _, _, rfl⟩

theorem StW.shape {w : World} {v : Value} {s : St} (h : StW w v s) : ∃ af nf cf an nn cn as' ns cs', v = .agg #[.int .i64 s.cap, .slice af nf cf, .slice an nn cn, .slice as' ns cs', .int .i64 s.next] := by
  obtain ⟨vf, vn, vs, rfl, hf, hn, hs, hi1, hi2⟩ := h
  obtain ⟨a1, c1, e1, _, _⟩ := hn.len
  obtain ⟨a2, c2, e2, _, _⟩ := hs.len
  obtain ⟨a3, c3, e3, _, _⟩ := hf.len
  subst e1
  subst e2
  subst e3
  exact ⟨_, _, _, _, _, _, _, _, _, rfl⟩

set_option maxHeartbeats 2000000 in
theorem do_any (s : St) (a : Ac) (v va : Value) (w : World) (hv : StW w v s) (ha : AcW w va a) (hl : s.names.length + s.safe.length ≤ 9223372036854775807) :
    Calls Try.prog 11 #[v, va] w fun e w' => ∃ v', e = .returned (.tuple #[v', .int .i64 (doP s a).2]) ∧ OwnV w' w.heap.size v' (doP s a).1 ∧ Below w.heap.size w w' := by
  obtain ⟨af, nf, cf, an, nn, cn, as', ns, cs', ev⟩ := hv.shape
  obtain ⟨vd, eva, hd, hok⟩ := ha
  obtain ⟨ad, cd, evd, _⟩ := hd.slice
  subst evd
  subst ev
  subst eva
  obtain ⟨B, hB⟩ : ∃ B, B = w.heap.size := ⟨_, rfl⟩
  obtain ⟨wx, hwx⟩ : ∃ wx, wx = ((w.alloc (.cells #[.int .i64 s.cap, .slice af nf cf, .slice an nn cn, .slice as' ns cs', .int .i64 s.next] 33)).alloc (.cells #[.int .i64 a.what, .string (strOfNums a.name), .string (strOfNums a.dest), .slice ad a.data.length cd] 28)).alloc (.cells #[.int .i64 0, .slice none 0 0, .slice none 0 0, .slice none 0 0, .int .i64 0] 33) := ⟨_, rfl⟩
  have HX : Hid (((w.alloc (.cells #[.int .i64 s.cap, .slice af nf cf, .slice an nn cn, .slice as' ns cs', .int .i64 s.next] 33)).alloc (.cells #[.int .i64 a.what, .string (strOfNums a.name), .string (strOfNums a.dest), .slice ad a.data.length cd] 28)).alloc (.cells #[.int .i64 0, .slice none 0 0, .slice none 0 0, .slice none 0 0, .int .i64 0] 33) = wx) := hwx.symm
  have u1 := up_al (Below.refl w.heap.size w) (.cells #[.int .i64 s.cap, .slice af nf cf, .slice an nn cn, .slice as' ns cs', .int .i64 s.next] 33)
  have b0 : wx.heap[B]? = some (.cells #[.int .i64 s.cap, .slice af nf cf, .slice an nn cn, .slice as' ns cs', .int .i64 s.next] 33) := by
    rw [hwx, hB]
    exact blk_up (blk_two0 w _ _) (up_al (Below.refl _ _) _)
  have b1 : wx.heap[B + 1]? = some (.cells #[.int .i64 a.what, .string (strOfNums a.name), .string (strOfNums a.dest), .slice ad a.data.length cd] 28) := by
    rw [hwx, hB]
    exact blk_up (blk_two1 w _ _) (up_al (Below.refl _ _) _)
  have b2 : wx.heap[B + 2]? = some (.cells #[.int .i64 0, .slice none 0 0, .slice none 0 0, .slice none 0 0, .int .i64 0] 33) := by
    rw [hwx, hB]
    have := blk_new ((w.alloc (.cells #[.int .i64 s.cap, .slice af nf cf, .slice an nn cn, .slice as' ns cs', .int .i64 s.next] 33)).alloc (.cells #[.int .i64 a.what, .string (strOfNums a.name), .string (strOfNums a.dest), .slice ad a.data.length cd] 28)) (.cells #[.int .i64 0, .slice none 0 0, .slice none 0 0, .slice none 0 0, .int .i64 0] 33)
    simpa using this
  have up : Hid (Below w.heap.size w wx) := by rw [hwx]; exact up_al (up_al u1 _) _
  have HB : Hid (wx.heap[B]? = some (.cells #[.int .i64 s.cap, .slice af nf cf, .slice an nn cn, .slice as' ns cs', .int .i64 s.next] 33) ∧ wx.heap[B + 1]? = some (.cells #[.int .i64 a.what, .string (strOfNums a.name), .string (strOfNums a.dest), .slice ad a.data.length cd] 28) ∧ wx.heap[B + 2]? = some (.cells #[.int .i64 0, .slice none 0 0, .slice none 0 0, .slice none 0 0, .int .i64 0] 33)) := ⟨b0, b1, b2⟩
  have HS : Hid (StW w (.agg #[.int .i64 s.cap, .slice af nf cf, .slice an nn cn, .slice as' ns cs', .int .i64 s.next]) s ∧ Octs w (.slice ad a.data.length cd) a.data ∧ okAc a ∧ B = w.heap.size) := ⟨hv, hd, hok, hB⟩
  clear u1 b0 b1 b2 hwx hv hd hok
  go_enter Try.func11, Try.ntmps11
  go_upto_region 1 with fail
  rw [HX.out, ← hB]
  clear HX hB
  have q0 := blk_cell HB.out.1 0 _ rfl
  have q1 := blk_cell HB.out.1 1 _ rfl
  have q2 := blk_cell HB.out.1 2 _ rfl
  have q3 := blk_cell HB.out.1 3 _ rfl
  have q4 := blk_cell HB.out.1 4 _ rfl
  have hc := check_any s _ wx (HS.out.1.up up.out) hl
  cases hchk : checkP s with
  | false =>
    have HR : Hid (doP s a = (z0, 9)) := by unfold Hid doP; rw [hchk]; rfl
    rw [hchk] at hc
    have he : errOf false = 9 := rfl
    rw [he] at hc
    clear hchk he
    go_wp2_with fail
    refine hc.mono ?_
    rintro e w1 ⟨rfl, u1⟩
    have HB1 : Hid (w1.heap[B + 2]? = some (.cells #[.int .i64 0, .slice none 0 0, .slice none 0 0, .slice none 0 0, .int .i64 0] 33)) := blk_up HB.out.2.2 u1
    have up1 : Hid (Below w.heap.size w w1) := up_trans up.out u1
    clear u1 hc q0 q1 q2 q3 q4
    have x0 := blk_cell HB1.out 0 _ rfl
    have x1 := blk_cell HB1.out 1 _ rfl
    have x2 := blk_cell HB1.out 2 _ rfl
    have x3 := blk_cell HB1.out 3 _ rfl
    have x4 := blk_cell HB1.out 4 _ rfl
    have f0 := blk_frozen HB1.out 0
    have f1 := blk_frozen HB1.out 1
    have f2 := blk_frozen HB1.out 2
    have f3 := blk_frozen HB1.out 3
    have f4 := blk_frozen HB1.out 4
    go_wp2_with fail
    have b5 := set5_blk HB1.out (.int .i64 0) (.slice none 0 0) (.slice none 0 0) (.slice none 0 0) (.int .i64 0)
    refine bodyPost_ret (results_state1 rfl _ _ rfl rfl b5) rfl ?_
    rw [HR.out]
    refine ⟨_, rfl, OwnV.zero _ _ 0 0 in64_0 in64_0, ?_⟩
    exact up1.out.grown (set5_grown _ _ _ _ _ _ _) up1.out.size (fun j hj => by injection hj with hj; rw [← hj, HS.out.2.2.2]; omega)
  | true =>
    have HSo : Hid (Sound s) := check_sound hchk
    have HR : Hid (doP s a = if (actP s a).2 = 0 then actP s a else (z0, (actP s a).2)) := by unfold Hid doP; rw [hchk]; rfl
    rw [hchk] at hc
    have he : errOf true = 0 := rfl
    rw [he] at hc
    clear hchk he
    go_wp2_with fail
    refine hc.mono ?_
    rintro e w1 ⟨rfl, u1⟩
    have HB1 : Hid (w1.heap[B]? = some (.cells #[.int .i64 s.cap, .slice af nf cf, .slice an nn cn, .slice as' ns cs', .int .i64 s.next] 33) ∧ w1.heap[B + 1]? = some (.cells #[.int .i64 a.what, .string (strOfNums a.name), .string (strOfNums a.dest), .slice ad a.data.length cd] 28) ∧ w1.heap[B + 2]? = some (.cells #[.int .i64 0, .slice none 0 0, .slice none 0 0, .slice none 0 0, .int .i64 0] 33)) := ⟨blk_up HB.out.1 u1, blk_up HB.out.2.1 u1, blk_up HB.out.2.2 u1⟩
    have up1 : Hid (Below w.heap.size w w1) := up_trans up.out u1
    clear u1 hc q0 q1 q2 q3 q4
    have q0 := blk_cell HB1.out.1 0 _ rfl
    have q1 := blk_cell HB1.out.1 1 _ rfl
    have q2 := blk_cell HB1.out.1 2 _ rfl
    have q3 := blk_cell HB1.out.1 3 _ rfl
    have q4 := blk_cell HB1.out.1 4 _ rfl
    go_wp2_with fail
    refine (copied_any s _ w1 (HS.out.1.up up1.out) HSo.out.1.1 HSo.out.1.2.1 HSo.out.1.2.2.1).mono ?_
    rintro e w2 ⟨v2, rfl, ov2, u2⟩
    obtain ⟨a1, n1, c1, a2, n2, c2, a3, n3, c3, ev2⟩ := ov2.shape
    subst ev2
    have hb2 : w2.heap[B]? = some (.cells #[.int .i64 s.cap, .slice af nf cf, .slice an nn cn, .slice as' ns cs', .int .i64 s.next] 33) := blk_up HB1.out.1 u2
    have hpt := ov2.put hb2
    have g5 := set5_grown w2 B (.int .i64 s.cap) (.slice a1 n1 c1) (.slice a2 n2 c2) (.slice a3 n3 c3) (.int .i64 s.next)
    clear q0 q1 q2 q3 q4
    have q0 := blk_cell hb2 0 _ rfl
    have q1 := blk_cell hb2 1 _ rfl
    have q2 := blk_cell hb2 2 _ rfl
    have q3 := blk_cell hb2 3 _ rfl
    have q4 := blk_cell hb2 4 _ rfl
    have f0 := blk_frozen hb2 0
    have f1 := blk_frozen hb2 1
    have f2 := blk_frozen hb2 2
    have f3 := blk_frozen hb2 3
    have f4 := blk_frozen hb2 4
    have HBl : Hid (B + 2 < w1.heap.size) := blk_lt HB1.out.2.2
    go_upto_region 5 with fail
    obtain ⟨y, hy⟩ : ∃ y, y = set5 w2 B (.int .i64 s.cap) (.slice a1 n1 c1) (.slice a2 n2 c2) (.slice a3 n3 c3) (.int .i64 s.next) := ⟨_, rfl⟩
    have hy' : ((((w2.setCell ⟨B, 0, none⟩ (.int .i64 s.cap)).setCell ⟨B, 1, none⟩ (.slice a1 n1 c1)).setCell ⟨B, 2, none⟩ (.slice a2 n2 c2)).setCell ⟨B, 3, none⟩ (.slice a3 n3 c3)).setCell ⟨B, 4, none⟩ (.int .i64 s.next) = y := by rw [hy]; rfl
    rw [hy']
    rw [← hy] at hpt g5
    have uy : Below w.heap.size w y := (up_trans up1.out u2).grown g5 (Nat.le_trans up1.out.size u2.size) (fun j hj => by injection hj with hj; rw [← hj, HS.out.2.2.2]; exact Nat.le_refl _)
    have HY : Hid (OwnS y w1.heap.size B s ∧ y.heap[B + 1]? = some (.cells #[.int .i64 a.what, .string (strOfNums a.name), .string (strOfNums a.dest), .slice ad a.data.length cd] 28) ∧ y.heap[B + 2]? = some (.cells #[.int .i64 0, .slice none 0 0, .slice none 0 0, .slice none 0 0, .int .i64 0] 33) ∧ Below w.heap.size w y ∧ w1.heap.size ≤ y.heap.size) :=
      ⟨hpt.1, blk_grown (blk_up HB1.out.2.1 u2) g5 (by simp), blk_grown (blk_up HB1.out.2.2 u2) g5 (by simp), uy, Nat.le_trans u2.size g5.size⟩
    clear q0 q1 q2 q3 q4 f0 f1 f2 f3 f4 hb2 hpt g5 hy hy' ov2 u2 uy
    have q0 := blk_cell HY.out.2.1 0 _ rfl
    have q1 := blk_cell HY.out.2.1 1 _ rfl
    have q2 := blk_cell HY.out.2.1 2 _ rfl
    have q3 := blk_cell HY.out.2.1 3 _ rfl
    go_wp2_with fail
    refine (act_any s a _ w1.heap.size B y HY.out.1 HSo.out ⟨_, rfl, HS.out.2.1.up HY.out.2.2.2.1, HS.out.2.2.1⟩ HY.out.2.2.2.2).mono ?_
    rintro e w3 ⟨rfl, os3, be3⟩
    have HB3 : Hid (w3.heap[B + 2]? = some (.cells #[.int .i64 0, .slice none 0 0, .slice none 0 0, .slice none 0 0, .int .i64 0] 33)) := (be3.block (B + 2) HBl.out (by omega)).trans HY.out.2.2.1
    have HU3 : Hid (Below w.heap.size w w3) := by
      refine HY.out.2.2.2.1.trans ⟨be3.os, be3.tape, be3.output, be3.size, fun k hk => be3.block k (by have := up1.out.size; omega) (by rw [HS.out.2.2.2]; omega)⟩
    have HO3 : Hid (OwnS w3 w1.heap.size B (actP s a).1) := os3
    clear os3 be3 q0 q1 q2 q3
    have x0 := blk_cell HB3.out 0 _ rfl
    have x1 := blk_cell HB3.out 1 _ rfl
    have x2 := blk_cell HB3.out 2 _ rfl
    have x3 := blk_cell HB3.out 3 _ rfl
    have x4 := blk_cell HB3.out 4 _ rfl
    have f0 := blk_frozen HB3.out 0
    have f1 := blk_frozen HB3.out 1
    have f2 := blk_frozen HB3.out 2
    have f3 := blk_frozen HB3.out 3
    have f4 := blk_frozen HB3.out 4
    by_cases hz : (actP s a).2 = 0
    · have HR2 : Hid (doP s a = actP s a) := by unfold Hid; rw [HR.out, if_pos hz]
      have HZ : Hid ((actP s a).2 = 0) := hz
      obtain ⟨vf3, vn3, vs3, hb3, ov3⟩ := HO3.out.take
      obtain ⟨a4, n4, c4, a5, n5, c5, a6, n6, c6, ev4⟩ := ov3.shape
      simp at ev4
      obtain ⟨rfl, rfl, rfl⟩ := ev4
      have q0 := blk_cell hb3 0 _ rfl
      have q1 := blk_cell hb3 1 _ rfl
      have q2 := blk_cell hb3 2 _ rfl
      have q3 := blk_cell hb3 3 _ rfl
      have q4 := blk_cell hb3 4 _ rfl
      have HP : Hid (OwnV (set5 w3 (B + 2) (.int .i64 (actP s a).1.cap) (.slice a4 n4 c4) (.slice a5 n5 c5) (.slice a6 n6 c6) (.int .i64 (actP s a).1.next)) w1.heap.size (.agg #[.int .i64 (actP s a).1.cap, .slice a4 n4 c4, .slice a5 n5 c5, .slice a6 n6 c6, .int .i64 (actP s a).1.next]) (actP s a).1) := (ov3.put HB3.out).2
      clear ov3 hb3
      go_wp2_with fail
      have b5 := set5_blk HB3.out (.int .i64 (actP s a).1.cap) (.slice a4 n4 c4) (.slice a5 n5 c5) (.slice a6 n6 c6) (.int .i64 (actP s a).1.next)
      refine bodyPost_ret (results_state1 rfl _ _ rfl rfl b5) rfl ?_
      rw [HR2.out, HZ.out]
      refine ⟨_, rfl, HP.out.mono up1.out.size, ?_⟩
      exact HU3.out.grown (set5_grown _ _ _ _ _ _ _) HU3.out.size (fun j hj => by injection hj with hj; rw [← hj, HS.out.2.2.2]; omega)
    · have HR2 : Hid (doP s a = (z0, (actP s a).2)) := by unfold Hid; rw [HR.out, if_neg hz]
      have hz' : ((actP s a).2 == 0) = false := by rw [beq_eq_false_iff_ne]; exact hz
      go_wp2_with fail
      have b5 := set5_blk HB3.out (.int .i64 0) (.slice none 0 0) (.slice none 0 0) (.slice none 0 0) (.int .i64 0)
      refine bodyPost_ret (results_state1 rfl _ _ rfl rfl b5) rfl ?_
      rw [HR2.out]
      refine ⟨_, rfl, OwnV.zero _ _ 0 0 in64_0 in64_0, ?_⟩
      exact HU3.out.grown (set5_grown _ _ _ _ _ _ _) HU3.out.size (fun j hj => by injection hj with hj; rw [← hj, HS.out.2.2.2]; omega)
end Go.Proofs.Ytoceddpjkodfkaa
