/- EditApplies: what an edit makes of a version, the edit that makes it, and a level's tables, are the page's. -/
import Derived.Test.YtbknoplfjfnbcaaLOwn
import Derived.Test.YtbknoplfjfnbcaaRWho
import Derived.Test.YtbknoplfjfnbcaaLWhole
namespace Go.Proofs.Ytbknoplfjfnbcaa
open Go.RowKit
set_option linter.unusedVariables false
set_option linter.unusedSimpArgs false

theorem refWhole_bad (ts : List Me) (seq next : Int) (va : Option Addr) (vn vc : Nat) (w : World) (hv : MetsR w (.slice va vn vc) ts) (h : errV ts seq next = 9) :
    Calls Try.prog 13 #[.agg #[.slice va vn vc, .int .i64 seq, .int .i64 next]] w fun e w' => e = .returned (.tuple #[.agg #[.slice none 0 0, .slice none 0 0, .int .i64 0, .int .i64 0], .int .i64 9]) ∧ Below w.heap.size w w' :=
  (refWhole_any ts seq next va vn vc w hv).mono fun e w' q => by
    unfold WhoR at q
    rw [if_neg (by rw [h]; decide)] at q
    exact q
theorem refWhole_good (ts : List Me) (seq next : Int) (va : Option Addr) (vn vc : Nat) (w : World) (hv : MetsR w (.slice va vn vc) ts) (h : errV ts seq next = 0) :
    Calls Try.prog 13 #[.agg #[.slice va vn vc, .int .i64 seq, .int .i64 next]] w fun e w' => ∃ a n c, e = .returned (.tuple #[.agg #[.slice none 0 0, .slice a n c, .int .i64 seq, .int .i64 next], .int .i64 0]) ∧ OwnR w' w.heap.size 74 5 (.slice a n c) (ts.map meRow) ∧ Below w.heap.size w w' :=
  (refWhole_any ts seq next va vn vc w hv).mono fun e w' q => by
    unfold WhoR at q
    rw [if_pos h] at q
    exact q
/-- What a Whole answers, of the program or the document. -/
def WhoX (t : TypeId) (w : World) (l : List Me) (s n c : Int) (e : Ending) (w' : World) : Prop := ∃ a k cc, e = .returned (.tuple #[.agg #[.slice none 0 0, .slice a k cc, .int .i64 s, .int .i64 n], .int .i64 c]) ∧ MetsR w' (.slice a k cc) l ∧ Below w.heap.size w w'
def whoL (ts : List Me) (seq next : Int) : List Me := if errV ts seq next = 0 then ts else []
def whoN (ts : List Me) (seq next x : Int) : Int := if errV ts seq next = 0 then x else 0
theorem whole_x (ts : List Me) (seq next : Int) (va : Option Addr) (vn vc : Nat) (w : World) (hv : MetsR w (.slice va vn vc) ts) :
    Calls Try.prog 12 #[.agg #[.slice va vn vc, .int .i64 seq, .int .i64 next]] w (WhoX 65 w (whoL ts seq next) (whoN ts seq next seq) (whoN ts seq next next) (errV ts seq next)) := by
  unfold WhoX whoL whoN
  rcases errV_cases ts seq next with h | h
  · simp only [h, if_true]
    exact (whole_good ts seq next va vn vc w hv h).mono fun e w' ⟨a, k, c, he, hO, hb⟩ => ⟨a, k, c, he, Rws.own hO, hb⟩
  · simp only [h, show ¬ ((9 : Int) = 0) by decide, if_false]
    exact (whole_bad ts seq next va vn vc w hv h).mono fun e w' ⟨he, hb⟩ => ⟨none, 0, 0, he, Rws.nil _ _, hb⟩
theorem refWhole_x (ts : List Me) (seq next : Int) (va : Option Addr) (vn vc : Nat) (w : World) (hv : MetsR w (.slice va vn vc) ts) :
    Calls Try.prog 13 #[.agg #[.slice va vn vc, .int .i64 seq, .int .i64 next]] w (WhoX 74 w (whoL ts seq next) (whoN ts seq next seq) (whoN ts seq next next) (errV ts seq next)) := by
  unfold WhoX whoL whoN
  rcases errV_cases ts seq next with h | h
  · simp only [h, if_true]
    exact (refWhole_good ts seq next va vn vc w hv h).mono fun e w' ⟨a, k, c, he, hO, hb⟩ => ⟨a, k, c, he, Rws.own hO, hb⟩
  · simp only [h, show ¬ ((9 : Int) = 0) by decide, if_false]
    exact (refWhole_bad ts seq next va vn vc w hv h).mono fun e w' ⟨he, hb⟩ => ⟨none, 0, 0, he, Rws.nil _ _, hb⟩
def AtX (w : World) (l : List Me) (c : Int) (e : Ending) (w' : World) : Prop := ∃ a k cc, e = .returned (.tuple #[.slice a k cc, .int .i64 c]) ∧ MetsR w' (.slice a k cc) l ∧ Below w.heap.size w w'
def atL (ts : List Me) (seq next lev : Int) : List Me := if errV ts seq next = 0 then ts.filter (lvlM lev) else []
theorem at_x (ts : List Me) (seq next lev : Int) (va : Option Addr) (vn vc : Nat) (w : World) (hv : MetsR w (.slice va vn vc) ts) :
    Calls Try.prog 14 #[.agg #[.slice va vn vc, .int .i64 seq, .int .i64 next], .int .i64 lev] w (AtX w (atL ts seq next lev) (errV ts seq next)) := by
  unfold AtX atL
  refine (at_any ts seq next lev va vn vc w hv).mono fun e w' q => ?_
  unfold AtE at q
  rcases errV_cases ts seq next with h | h
  · rw [if_pos h] at q
    rw [if_pos h, h]
    obtain ⟨a, k, c, he, hO, hb⟩ := q
    exact ⟨a, k, c, he, Rws.own hO, hb⟩
  · rw [if_neg (by rw [h]; decide)] at q
    rw [if_neg (by rw [h]; decide), h]
    exact ⟨none, 0, 0, q.1, Rws.nil _ _, q.2⟩
theorem refAt_x (ts : List Me) (seq next lev : Int) (va : Option Addr) (vn vc : Nat) (w : World) (hv : MetsR w (.slice va vn vc) ts) :
    Calls Try.prog 15 #[.agg #[.slice va vn vc, .int .i64 seq, .int .i64 next], .int .i64 lev] w (AtX w (atL ts seq next lev) (errV ts seq next)) := by
  unfold AtX atL
  refine (refAt_any ts seq next lev va vn vc w hv).mono fun e w' q => ?_
  unfold AtR at q
  rcases errV_cases ts seq next with h | h
  · rw [if_pos h] at q
    rw [if_pos h, h]
    obtain ⟨a, k, c, he, hO, hb⟩ := q
    exact ⟨a, k, c, he, Rws.own hO, hb⟩
  · rw [if_neg (by rw [h]; decide)] at q
    rw [if_neg (by rw [h]; decide), h]
    exact ⟨none, 0, 0, q.1, Rws.nil _ _, q.2⟩

set_option maxHeartbeats 16000000 in
set_option maxRecDepth 100000 in
theorem applies_walk (ts : List Me) (seq next : Int) (drop : List Int) (add : List Me) (seq2 next2 lev : Int) (va da aa : Option Addr) (vn vc dn dc an ac : Nat) (w : World)
    (hv : MetsR w (.slice va vn vc) ts) (hd : IntsR w (.slice da dn dc) drop) (ha : MetsR w (.slice aa an ac) add) (hdi : ∀ i ∈ drop, In64 i) (htl : ts.length ≤ 4000000000000) (hdl : drop.length ≤ 17592186044416) (hal : add.length ≤ 4000000000000) :
    Calls Try.prog 3 #[.agg #[.slice va vn vc, .int .i64 seq, .int .i64 next], .agg #[.slice da dn dc, .slice aa an ac, .int .i64 seq2, .int .i64 next2], .int .i64 lev] w fun e w' => e = .returned (.bool true) ∧ Hid (Below w.heap.size w w') := by
  have HV : Hid (MetsR w (.slice va vn vc) ts) := hv
  have HD : Hid (IntsR w (.slice da dn dc) drop) := hd
  have HA : Hid (MetsR w (.slice aa an ac) add) := ha
  have HDI : Hid (∀ i ∈ drop, In64 i) := hdi
  clear hv hd ha hdi
  obtain ⟨w1, hw1⟩ : ∃ w1, w1 = (w.alloc (.cells #[.slice va vn vc, .int .i64 seq, .int .i64 next] 24)).alloc (.cells #[.slice da dn dc, .slice aa an ac, .int .i64 seq2, .int .i64 next2] 27) := ⟨_, rfl⟩
  have HW0 : Hid ((w.alloc (.cells #[.slice va vn vc, .int .i64 seq, .int .i64 next] 24)).alloc (.cells #[.slice da dn dc, .slice aa an ac, .int .i64 seq2, .int .i64 next2] 27) = w1) := hw1.symm
  have U1 : Hid (Below w.heap.size w w1) := by rw [hw1]; exact up_al (up_alloc _ _) _
  have B0 : Hid (w1.heap[w.heap.size]? = some (.cells #[.slice va vn vc, .int .i64 seq, .int .i64 next] 24)) := by rw [hw1]; exact blk_up (blk_new _ _) (up_alloc _ _)
  have B1 : Hid (w1.heap[w.heap.size + 1]? = some (.cells #[.slice da dn dc, .slice aa an ac, .int .i64 seq2, .int .i64 next2] 27)) := by
    rw [hw1]
    have := blk_new (w.alloc (.cells #[.slice va vn vc, .int .i64 seq, .int .i64 next] 24)) (.cells #[.slice da dn dc, .slice aa an ac, .int .i64 seq2, .int .i64 next2] 27)
    rw [show (w.alloc (.cells #[.slice va vn vc, .int .i64 seq, .int .i64 next] 24)).heap.size = w.heap.size + 1 by simp] at this
    exact this
  clear hw1
  go_enter Try.func3, Try.ntmps3
  go_upto_region 1 with fail
  rw [HW0.out]
  clear HW0
  generalize w.heap.size + 1 = N1 at *
  obtain ⟨x0, x1, x2, y0, y1, y2, y3⟩ := seven B0.out B1.out
  have HCE : Hid (∀ W, Below w1.heap.size w1 W → W.cell? ⟨w.heap.size, 0, none⟩ = some (.slice va vn vc) ∧ W.cell? ⟨w.heap.size, 1, none⟩ = some (.int .i64 seq) ∧ W.cell? ⟨w.heap.size, 2, none⟩ = some (.int .i64 next) ∧ W.cell? ⟨N1, 0, none⟩ = some (.slice da dn dc) ∧ W.cell? ⟨N1, 1, none⟩ = some (.slice aa an ac) ∧ W.cell? ⟨N1, 2, none⟩ = some (.int .i64 seq2) ∧ W.cell? ⟨N1, 3, none⟩ = some (.int .i64 next2)) := fun W h => seven (blk_up B0.out h) (blk_up B1.out h)
  have C8 : Hid (∀ W, Below w1.heap.size w1 W → Calls Try.prog 8 #[.agg #[.slice va vn vc, .int .i64 seq, .int .i64 next]] W fun e w' => ∃ a n c, e = .returned (.agg #[.slice a n c, .int .i64 seq, .int .i64 next]) ∧ Hid (VerO w' w1.heap.size a n c ts) ∧ Hid (Below w1.heap.size w1 w') ∧ Hid (Below W.heap.size W w')) := by
    intro W u
    refine (of_any ts seq next va vn vc W ((HV.out.up U1.out).up u) htl).mono ?_
    rintro e w' ⟨a, n, c, rfl, hO, hb⟩
    exact ⟨a, n, c, rfl, hO.out.mono u.size, up_trans u hb.out, hb⟩
  have C9 : Hid (∀ W, Below w1.heap.size w1 W → Calls Try.prog 9 #[.agg #[.slice da dn dc, .slice aa an ac, .int .i64 seq2, .int .i64 next2]] W fun e w' => ∃ a1 n1 c1 a2 n2 c2, e = .returned (.agg #[.slice a1 n1 c1, .slice a2 n2 c2, .int .i64 seq2, .int .i64 next2]) ∧ Hid (OwnR w' w1.heap.size 3 1 (.slice a1 n1 c1) (drop.map irow)) ∧ Hid (VerO w' w1.heap.size a2 n2 c2 add) ∧ Hid (Below w1.heap.size w1 w') ∧ Hid (Below W.heap.size W w')) := by
    intro W u
    refine (ofEdit_any drop add seq2 next2 da aa dn dc an ac W ((HD.out.up U1.out).up u) ((HA.out.up U1.out).up u) hdl hal).mono ?_
    rintro e w' ⟨a1, n1, c1, a2, n2, c2, rfl, hO, hQ, hb⟩
    exact ⟨a1, n1, c1, a2, n2, c2, rfl, hO.out.mono u.size, hQ.out.mono u.size, up_trans u hb.out, hb⟩
  go_cut [7, 8] from 21 to 24 (fun s5 s6 wx => ∃ NX NY : Nat, s5 = .pointer (some ⟨NX, 0, none⟩) ∧ s6 = .pointer (some ⟨NY, 0, none⟩) ∧ Hid (XBox wx w1.heap.size NX ts seq next) ∧ Hid (YBox wx w1.heap.size NY drop add seq2 next2) ∧ Hid (Below w1.heap.size w1 wx))
  case first =>
    go_region_held3 (fun w' => w'.cell? ⟨w.heap.size, 0, none⟩ = some (.slice va vn vc) ∧ w'.cell? ⟨w.heap.size, 1, none⟩ = some (.int .i64 seq) ∧ w'.cell? ⟨w.heap.size, 2, none⟩ = some (.int .i64 next) ∧ w'.cell? ⟨N1, 0, none⟩ = some (.slice da dn dc) ∧ w'.cell? ⟨N1, 1, none⟩ = some (.slice aa an ac) ∧ w'.cell? ⟨N1, 2, none⟩ = some (.int .i64 seq2) ∧ w'.cell? ⟨N1, 3, none⟩ = some (.int .i64 next2)) (first | with_reducible exact ⟨x0, x1, x2, y0, y1, y2, y3⟩ | (with_reducible refine HCE.out _ ?_; (repeat (first | with_reducible exact u4.out | with_reducible exact u3.out | with_reducible exact Below.refl _ _ | with_reducible refine up_dr ?_ | with_reducible refine up_al ?_ _ | with_reducible refine up_set1 ?_ ?_ | exact Nat.le_refl _ | exact u3.out.size | exact u4.out.size | exact Nat.le_succ _ | exact Nat.le_succ_of_le u3.out.size | exact Nat.le_succ_of_le u4.out.size)); done)) (first
      | (go_at_call 8; with_reducible refine (C8.out _ (up_dr (up_al (up_alloc w1 (.cells #[.slice none 0 0, .int .i64 0, .int .i64 0] 30)) (.cells #[.slice none 0 0, .slice none 0 0, .int .i64 0, .int .i64 0] 33)))).mono ?_; rintro e w3 ⟨a3, n3, c3, rfl, O3, u3, v3⟩; have KA := hid (blk_up (w := ((w1.alloc (.cells #[.slice none 0 0, .int .i64 0, .int .i64 0] 30)).alloc (.cells #[.slice none 0 0, .slice none 0 0, .int .i64 0, .int .i64 0] 33)).drew) (two0 w1 (.cells #[.slice none 0 0, .int .i64 0, .int .i64 0] 30) (.cells #[.slice none 0 0, .slice none 0 0, .int .i64 0, .int .i64 0] 33)) v3.out); have KB := hid (blk_up (w := ((w1.alloc (.cells #[.slice none 0 0, .int .i64 0, .int .i64 0] 30)).alloc (.cells #[.slice none 0 0, .slice none 0 0, .int .i64 0, .int .i64 0] 33)).drew) (two1 w1 (.cells #[.slice none 0 0, .int .i64 0, .int .i64 0] 30) (.cells #[.slice none 0 0, .slice none 0 0, .int .i64 0, .int .i64 0] 33)) v3.out))
      | (go_at_call 8; with_reducible refine (C8.out _ (up_dr (up_al (up_alloc w1 (.cells #[.slice none 0 0, .slice none 0 0, .int .i64 0, .int .i64 0] 33)) (.cells #[.slice none 0 0, .int .i64 0, .int .i64 0] 30)))).mono ?_; rintro e w3 ⟨a3, n3, c3, rfl, O3, u3, v3⟩; have KB := hid (blk_up (w := ((w1.alloc (.cells #[.slice none 0 0, .slice none 0 0, .int .i64 0, .int .i64 0] 33)).alloc (.cells #[.slice none 0 0, .int .i64 0, .int .i64 0] 30)).drew) (two0 w1 (.cells #[.slice none 0 0, .slice none 0 0, .int .i64 0, .int .i64 0] 33) (.cells #[.slice none 0 0, .int .i64 0, .int .i64 0] 30)) v3.out); have KA := hid (blk_up (w := ((w1.alloc (.cells #[.slice none 0 0, .slice none 0 0, .int .i64 0, .int .i64 0] 33)).alloc (.cells #[.slice none 0 0, .int .i64 0, .int .i64 0] 30)).drew) (two1 w1 (.cells #[.slice none 0 0, .slice none 0 0, .int .i64 0, .int .i64 0] 33) (.cells #[.slice none 0 0, .int .i64 0, .int .i64 0] 30)) v3.out))
      | (go_at_call 8; with_reducible refine (C8.out _ (up_dr (up_alloc w1 (.cells #[.slice none 0 0, .int .i64 0, .int .i64 0] 30)))).mono ?_; rintro e w3 ⟨a3, n3, c3, rfl, O3, u3, v3⟩; have KA := hid (blk_up (w := (w1.alloc (.cells #[.slice none 0 0, .int .i64 0, .int .i64 0] 30)).drew) (blk_new w1 (.cells #[.slice none 0 0, .int .i64 0, .int .i64 0] 30)) v3.out))
      | (go_at_call 8; with_reducible refine (C8.out _ (up_dr (up_alloc w1 (.cells #[.slice none 0 0, .slice none 0 0, .int .i64 0, .int .i64 0] 33)))).mono ?_; rintro e w3 ⟨a3, n3, c3, rfl, O3, u3, v3⟩; have KB := hid (blk_up (w := (w1.alloc (.cells #[.slice none 0 0, .slice none 0 0, .int .i64 0, .int .i64 0] 33)).drew) (blk_new w1 (.cells #[.slice none 0 0, .slice none 0 0, .int .i64 0, .int .i64 0] 33)) v3.out))
      | (go_at_call 8; with_reducible refine (C8.out _ (up_dr (Below.refl _ _))).mono ?_; rintro e w3 ⟨a3, n3, c3, rfl, O3, u3, v3⟩)
      | (go_at_call 9; with_reducible refine (C9.out _ u3.out).mono ?_; rintro e w4 ⟨a4, n4, c4, a5, n5, c5, rfl, I4, M4, u4, v4⟩; have O4 := hid (O3.out.up v4.out); have KA := hid (blk_up KA.out v4.out); have KB := hid (blk_up KB.out v4.out); have ra0 := blk_cell KA.out 0 _ rfl; have ra1 := blk_cell KA.out 1 _ rfl; have ra2 := blk_cell KA.out 2 _ rfl; have fa0 := blk_frozen KA.out 0; have fa1 := blk_frozen KA.out 1; have fa2 := blk_frozen KA.out 2; have qa0 := fun o => blk_cell (blk_up KA.out (up_alloc w4 o)) 0 _ rfl; have qa1 := fun o => blk_cell (blk_up KA.out (up_alloc w4 o)) 1 _ rfl; have qa2 := fun o => blk_cell (blk_up KA.out (up_alloc w4 o)) 2 _ rfl; have ga0 := fun o => blk_frozen (blk_up KA.out (up_alloc w4 o)) 0; have ga1 := fun o => blk_frozen (blk_up KA.out (up_alloc w4 o)) 1; have ga2 := fun o => blk_frozen (blk_up KA.out (up_alloc w4 o)) 2; have na1 := Nat.ne_of_lt (blk_lt KA.out); have na2 := Nat.ne_of_gt (blk_lt KA.out); have rb0 := blk_cell KB.out 0 _ rfl; have rb1 := blk_cell KB.out 1 _ rfl; have rb2 := blk_cell KB.out 2 _ rfl; have rb3 := blk_cell KB.out 3 _ rfl; have fb0 := blk_frozen KB.out 0; have fb1 := blk_frozen KB.out 1; have fb2 := blk_frozen KB.out 2; have fb3 := blk_frozen KB.out 3; have qb0 := fun o => blk_cell (blk_up KB.out (up_alloc w4 o)) 0 _ rfl; have qb1 := fun o => blk_cell (blk_up KB.out (up_alloc w4 o)) 1 _ rfl; have qb2 := fun o => blk_cell (blk_up KB.out (up_alloc w4 o)) 2 _ rfl; have qb3 := fun o => blk_cell (blk_up KB.out (up_alloc w4 o)) 3 _ rfl; have gb0 := fun o => blk_frozen (blk_up KB.out (up_alloc w4 o)) 0; have gb1 := fun o => blk_frozen (blk_up KB.out (up_alloc w4 o)) 1; have gb2 := fun o => blk_frozen (blk_up KB.out (up_alloc w4 o)) 2; have gb3 := fun o => blk_frozen (blk_up KB.out (up_alloc w4 o)) 3; have nb1 := Nat.ne_of_lt (blk_lt KB.out); have nb2 := Nat.ne_of_gt (blk_lt KB.out))
      | (go_at_call 9; with_reducible refine (C9.out _ u3.out).mono ?_; rintro e w4 ⟨a4, n4, c4, a5, n5, c5, rfl, I4, M4, u4, v4⟩; have O4 := hid (O3.out.up v4.out); have KA := hid (blk_up KA.out v4.out); have ra0 := blk_cell KA.out 0 _ rfl; have ra1 := blk_cell KA.out 1 _ rfl; have ra2 := blk_cell KA.out 2 _ rfl; have fa0 := blk_frozen KA.out 0; have fa1 := blk_frozen KA.out 1; have fa2 := blk_frozen KA.out 2; have qa0 := fun o => blk_cell (blk_up KA.out (up_alloc w4 o)) 0 _ rfl; have qa1 := fun o => blk_cell (blk_up KA.out (up_alloc w4 o)) 1 _ rfl; have qa2 := fun o => blk_cell (blk_up KA.out (up_alloc w4 o)) 2 _ rfl; have ga0 := fun o => blk_frozen (blk_up KA.out (up_alloc w4 o)) 0; have ga1 := fun o => blk_frozen (blk_up KA.out (up_alloc w4 o)) 1; have ga2 := fun o => blk_frozen (blk_up KA.out (up_alloc w4 o)) 2; have na1 := Nat.ne_of_lt (blk_lt KA.out); have na2 := Nat.ne_of_gt (blk_lt KA.out))
      | (go_at_call 9; with_reducible refine (C9.out _ u3.out).mono ?_; rintro e w4 ⟨a4, n4, c4, a5, n5, c5, rfl, I4, M4, u4, v4⟩; have O4 := hid (O3.out.up v4.out); have KB := hid (blk_up KB.out v4.out); have rb0 := blk_cell KB.out 0 _ rfl; have rb1 := blk_cell KB.out 1 _ rfl; have rb2 := blk_cell KB.out 2 _ rfl; have rb3 := blk_cell KB.out 3 _ rfl; have fb0 := blk_frozen KB.out 0; have fb1 := blk_frozen KB.out 1; have fb2 := blk_frozen KB.out 2; have fb3 := blk_frozen KB.out 3; have qb0 := fun o => blk_cell (blk_up KB.out (up_alloc w4 o)) 0 _ rfl; have qb1 := fun o => blk_cell (blk_up KB.out (up_alloc w4 o)) 1 _ rfl; have qb2 := fun o => blk_cell (blk_up KB.out (up_alloc w4 o)) 2 _ rfl; have qb3 := fun o => blk_cell (blk_up KB.out (up_alloc w4 o)) 3 _ rfl; have gb0 := fun o => blk_frozen (blk_up KB.out (up_alloc w4 o)) 0; have gb1 := fun o => blk_frozen (blk_up KB.out (up_alloc w4 o)) 1; have gb2 := fun o => blk_frozen (blk_up KB.out (up_alloc w4 o)) 2; have gb3 := fun o => blk_frozen (blk_up KB.out (up_alloc w4 o)) 3; have nb1 := Nat.ne_of_lt (blk_lt KB.out); have nb2 := Nat.ne_of_gt (blk_lt KB.out))
      | (go_at_call 9; with_reducible refine (C9.out _ u3.out).mono ?_; rintro e w4 ⟨a4, n4, c4, a5, n5, c5, rfl, I4, M4, u4, v4⟩; have O4 := hid (O3.out.up v4.out))
      | (go_at_call 9; with_reducible refine (C9.out _ (up_al u3.out (.cells #[.slice none 0 0, .slice none 0 0, .int .i64 0, .int .i64 0] 33))).mono ?_; rintro e w4 ⟨a4, n4, c4, a5, n5, c5, rfl, I4, M4, u4, v4⟩; have O4 := hid ((O3.out.up (up_alloc _ _)).up v4.out); have nk1 := Nat.ne_of_lt (blk_lt KA.out); have nk2 := Nat.ne_of_gt (blk_lt KA.out); have KA := hid (blk_up (blk_up KA.out (up_alloc w3 (.cells #[.slice none 0 0, .slice none 0 0, .int .i64 0, .int .i64 0] 33))) v4.out); have KB := hid (blk_up (blk_new w3 (.cells #[.slice none 0 0, .slice none 0 0, .int .i64 0, .int .i64 0] 33)) v4.out); have ra0 := blk_cell KA.out 0 _ rfl; have ra1 := blk_cell KA.out 1 _ rfl; have ra2 := blk_cell KA.out 2 _ rfl; have fa0 := blk_frozen KA.out 0; have fa1 := blk_frozen KA.out 1; have fa2 := blk_frozen KA.out 2; have qa0 := fun o => blk_cell (blk_up KA.out (up_alloc w4 o)) 0 _ rfl; have qa1 := fun o => blk_cell (blk_up KA.out (up_alloc w4 o)) 1 _ rfl; have qa2 := fun o => blk_cell (blk_up KA.out (up_alloc w4 o)) 2 _ rfl; have ga0 := fun o => blk_frozen (blk_up KA.out (up_alloc w4 o)) 0; have ga1 := fun o => blk_frozen (blk_up KA.out (up_alloc w4 o)) 1; have ga2 := fun o => blk_frozen (blk_up KA.out (up_alloc w4 o)) 2; have na1 := Nat.ne_of_lt (blk_lt KA.out); have na2 := Nat.ne_of_gt (blk_lt KA.out); have rb0 := blk_cell KB.out 0 _ rfl; have rb1 := blk_cell KB.out 1 _ rfl; have rb2 := blk_cell KB.out 2 _ rfl; have rb3 := blk_cell KB.out 3 _ rfl; have fb0 := blk_frozen KB.out 0; have fb1 := blk_frozen KB.out 1; have fb2 := blk_frozen KB.out 2; have fb3 := blk_frozen KB.out 3; have qb0 := fun o => blk_cell (blk_up KB.out (up_alloc w4 o)) 0 _ rfl; have qb1 := fun o => blk_cell (blk_up KB.out (up_alloc w4 o)) 1 _ rfl; have qb2 := fun o => blk_cell (blk_up KB.out (up_alloc w4 o)) 2 _ rfl; have qb3 := fun o => blk_cell (blk_up KB.out (up_alloc w4 o)) 3 _ rfl; have gb0 := fun o => blk_frozen (blk_up KB.out (up_alloc w4 o)) 0; have gb1 := fun o => blk_frozen (blk_up KB.out (up_alloc w4 o)) 1; have gb2 := fun o => blk_frozen (blk_up KB.out (up_alloc w4 o)) 2; have gb3 := fun o => blk_frozen (blk_up KB.out (up_alloc w4 o)) 3; have nb1 := Nat.ne_of_lt (blk_lt KB.out); have nb2 := Nat.ne_of_gt (blk_lt KB.out))
      | (go_at_call 9; with_reducible refine (C9.out _ (up_al u3.out (.cells #[.slice none 0 0, .int .i64 0, .int .i64 0] 30))).mono ?_; rintro e w4 ⟨a4, n4, c4, a5, n5, c5, rfl, I4, M4, u4, v4⟩; have O4 := hid ((O3.out.up (up_alloc _ _)).up v4.out); have nk1 := Nat.ne_of_lt (blk_lt KB.out); have nk2 := Nat.ne_of_gt (blk_lt KB.out); have KB := hid (blk_up (blk_up KB.out (up_alloc w3 (.cells #[.slice none 0 0, .int .i64 0, .int .i64 0] 30))) v4.out); have KA := hid (blk_up (blk_new w3 (.cells #[.slice none 0 0, .int .i64 0, .int .i64 0] 30)) v4.out); have ra0 := blk_cell KA.out 0 _ rfl; have ra1 := blk_cell KA.out 1 _ rfl; have ra2 := blk_cell KA.out 2 _ rfl; have fa0 := blk_frozen KA.out 0; have fa1 := blk_frozen KA.out 1; have fa2 := blk_frozen KA.out 2; have qa0 := fun o => blk_cell (blk_up KA.out (up_alloc w4 o)) 0 _ rfl; have qa1 := fun o => blk_cell (blk_up KA.out (up_alloc w4 o)) 1 _ rfl; have qa2 := fun o => blk_cell (blk_up KA.out (up_alloc w4 o)) 2 _ rfl; have ga0 := fun o => blk_frozen (blk_up KA.out (up_alloc w4 o)) 0; have ga1 := fun o => blk_frozen (blk_up KA.out (up_alloc w4 o)) 1; have ga2 := fun o => blk_frozen (blk_up KA.out (up_alloc w4 o)) 2; have na1 := Nat.ne_of_lt (blk_lt KA.out); have na2 := Nat.ne_of_gt (blk_lt KA.out); have rb0 := blk_cell KB.out 0 _ rfl; have rb1 := blk_cell KB.out 1 _ rfl; have rb2 := blk_cell KB.out 2 _ rfl; have rb3 := blk_cell KB.out 3 _ rfl; have fb0 := blk_frozen KB.out 0; have fb1 := blk_frozen KB.out 1; have fb2 := blk_frozen KB.out 2; have fb3 := blk_frozen KB.out 3; have qb0 := fun o => blk_cell (blk_up KB.out (up_alloc w4 o)) 0 _ rfl; have qb1 := fun o => blk_cell (blk_up KB.out (up_alloc w4 o)) 1 _ rfl; have qb2 := fun o => blk_cell (blk_up KB.out (up_alloc w4 o)) 2 _ rfl; have qb3 := fun o => blk_cell (blk_up KB.out (up_alloc w4 o)) 3 _ rfl; have gb0 := fun o => blk_frozen (blk_up KB.out (up_alloc w4 o)) 0; have gb1 := fun o => blk_frozen (blk_up KB.out (up_alloc w4 o)) 1; have gb2 := fun o => blk_frozen (blk_up KB.out (up_alloc w4 o)) 2; have gb3 := fun o => blk_frozen (blk_up KB.out (up_alloc w4 o)) 3; have nb1 := Nat.ne_of_lt (blk_lt KB.out); have nb2 := Nat.ne_of_gt (blk_lt KB.out))
      | (go_at_call 9; with_reducible refine (C9.out _ (up_al u3.out (.cells #[.slice none 0 0, .int .i64 0, .int .i64 0] 30))).mono ?_; rintro e w4 ⟨a4, n4, c4, a5, n5, c5, rfl, I4, M4, u4, v4⟩; have O4 := hid ((O3.out.up (up_alloc _ _)).up v4.out); have KA := hid (blk_up (blk_new w3 (.cells #[.slice none 0 0, .int .i64 0, .int .i64 0] 30)) v4.out); have ra0 := blk_cell KA.out 0 _ rfl; have ra1 := blk_cell KA.out 1 _ rfl; have ra2 := blk_cell KA.out 2 _ rfl; have fa0 := blk_frozen KA.out 0; have fa1 := blk_frozen KA.out 1; have fa2 := blk_frozen KA.out 2; have qa0 := fun o => blk_cell (blk_up KA.out (up_alloc w4 o)) 0 _ rfl; have qa1 := fun o => blk_cell (blk_up KA.out (up_alloc w4 o)) 1 _ rfl; have qa2 := fun o => blk_cell (blk_up KA.out (up_alloc w4 o)) 2 _ rfl; have ga0 := fun o => blk_frozen (blk_up KA.out (up_alloc w4 o)) 0; have ga1 := fun o => blk_frozen (blk_up KA.out (up_alloc w4 o)) 1; have ga2 := fun o => blk_frozen (blk_up KA.out (up_alloc w4 o)) 2; have na1 := Nat.ne_of_lt (blk_lt KA.out); have na2 := Nat.ne_of_gt (blk_lt KA.out))
      | (go_at_call 9; with_reducible refine (C9.out _ (up_al u3.out (.cells #[.slice none 0 0, .slice none 0 0, .int .i64 0, .int .i64 0] 33))).mono ?_; rintro e w4 ⟨a4, n4, c4, a5, n5, c5, rfl, I4, M4, u4, v4⟩; have O4 := hid ((O3.out.up (up_alloc _ _)).up v4.out); have KB := hid (blk_up (blk_new w3 (.cells #[.slice none 0 0, .slice none 0 0, .int .i64 0, .int .i64 0] 33)) v4.out); have rb0 := blk_cell KB.out 0 _ rfl; have rb1 := blk_cell KB.out 1 _ rfl; have rb2 := blk_cell KB.out 2 _ rfl; have rb3 := blk_cell KB.out 3 _ rfl; have fb0 := blk_frozen KB.out 0; have fb1 := blk_frozen KB.out 1; have fb2 := blk_frozen KB.out 2; have fb3 := blk_frozen KB.out 3; have qb0 := fun o => blk_cell (blk_up KB.out (up_alloc w4 o)) 0 _ rfl; have qb1 := fun o => blk_cell (blk_up KB.out (up_alloc w4 o)) 1 _ rfl; have qb2 := fun o => blk_cell (blk_up KB.out (up_alloc w4 o)) 2 _ rfl; have qb3 := fun o => blk_cell (blk_up KB.out (up_alloc w4 o)) 3 _ rfl; have gb0 := fun o => blk_frozen (blk_up KB.out (up_alloc w4 o)) 0; have gb1 := fun o => blk_frozen (blk_up KB.out (up_alloc w4 o)) 1; have gb2 := fun o => blk_frozen (blk_up KB.out (up_alloc w4 o)) 2; have gb3 := fun o => blk_frozen (blk_up KB.out (up_alloc w4 o)) 3; have nb1 := Nat.ne_of_lt (blk_lt KB.out); have nb2 := Nat.ne_of_gt (blk_lt KB.out))
      | (go_at_call 9; with_reducible refine (C9.out _ (up_al (up_al u3.out (.cells #[.slice none 0 0, .int .i64 0, .int .i64 0] 30)) (.cells #[.slice none 0 0, .slice none 0 0, .int .i64 0, .int .i64 0] 33))).mono ?_; rintro e w4 ⟨a4, n4, c4, a5, n5, c5, rfl, I4, M4, u4, v4⟩; have O4 := hid ((O3.out.up (up_al (up_alloc _ _) _)).up v4.out); have KA := hid (blk_up (twoa w3 (.cells #[.slice none 0 0, .int .i64 0, .int .i64 0] 30) (.cells #[.slice none 0 0, .slice none 0 0, .int .i64 0, .int .i64 0] 33)) v4.out); have KB := hid (blk_up (twob w3 (.cells #[.slice none 0 0, .int .i64 0, .int .i64 0] 30) (.cells #[.slice none 0 0, .slice none 0 0, .int .i64 0, .int .i64 0] 33)) v4.out); have ra0 := blk_cell KA.out 0 _ rfl; have ra1 := blk_cell KA.out 1 _ rfl; have ra2 := blk_cell KA.out 2 _ rfl; have fa0 := blk_frozen KA.out 0; have fa1 := blk_frozen KA.out 1; have fa2 := blk_frozen KA.out 2; have qa0 := fun o => blk_cell (blk_up KA.out (up_alloc w4 o)) 0 _ rfl; have qa1 := fun o => blk_cell (blk_up KA.out (up_alloc w4 o)) 1 _ rfl; have qa2 := fun o => blk_cell (blk_up KA.out (up_alloc w4 o)) 2 _ rfl; have ga0 := fun o => blk_frozen (blk_up KA.out (up_alloc w4 o)) 0; have ga1 := fun o => blk_frozen (blk_up KA.out (up_alloc w4 o)) 1; have ga2 := fun o => blk_frozen (blk_up KA.out (up_alloc w4 o)) 2; have na1 := Nat.ne_of_lt (blk_lt KA.out); have na2 := Nat.ne_of_gt (blk_lt KA.out); have rb0 := blk_cell KB.out 0 _ rfl; have rb1 := blk_cell KB.out 1 _ rfl; have rb2 := blk_cell KB.out 2 _ rfl; have rb3 := blk_cell KB.out 3 _ rfl; have fb0 := blk_frozen KB.out 0; have fb1 := blk_frozen KB.out 1; have fb2 := blk_frozen KB.out 2; have fb3 := blk_frozen KB.out 3; have qb0 := fun o => blk_cell (blk_up KB.out (up_alloc w4 o)) 0 _ rfl; have qb1 := fun o => blk_cell (blk_up KB.out (up_alloc w4 o)) 1 _ rfl; have qb2 := fun o => blk_cell (blk_up KB.out (up_alloc w4 o)) 2 _ rfl; have qb3 := fun o => blk_cell (blk_up KB.out (up_alloc w4 o)) 3 _ rfl; have gb0 := fun o => blk_frozen (blk_up KB.out (up_alloc w4 o)) 0; have gb1 := fun o => blk_frozen (blk_up KB.out (up_alloc w4 o)) 1; have gb2 := fun o => blk_frozen (blk_up KB.out (up_alloc w4 o)) 2; have gb3 := fun o => blk_frozen (blk_up KB.out (up_alloc w4 o)) 3; have nb1 := Nat.ne_of_lt (blk_lt KB.out); have nb2 := Nat.ne_of_gt (blk_lt KB.out))
      | (go_at_call 9; with_reducible refine (C9.out _ (up_al (up_al u3.out (.cells #[.slice none 0 0, .slice none 0 0, .int .i64 0, .int .i64 0] 33)) (.cells #[.slice none 0 0, .int .i64 0, .int .i64 0] 30))).mono ?_; rintro e w4 ⟨a4, n4, c4, a5, n5, c5, rfl, I4, M4, u4, v4⟩; have O4 := hid ((O3.out.up (up_al (up_alloc _ _) _)).up v4.out); have KB := hid (blk_up (twoa w3 (.cells #[.slice none 0 0, .slice none 0 0, .int .i64 0, .int .i64 0] 33) (.cells #[.slice none 0 0, .int .i64 0, .int .i64 0] 30)) v4.out); have KA := hid (blk_up (twob w3 (.cells #[.slice none 0 0, .slice none 0 0, .int .i64 0, .int .i64 0] 33) (.cells #[.slice none 0 0, .int .i64 0, .int .i64 0] 30)) v4.out); have ra0 := blk_cell KA.out 0 _ rfl; have ra1 := blk_cell KA.out 1 _ rfl; have ra2 := blk_cell KA.out 2 _ rfl; have fa0 := blk_frozen KA.out 0; have fa1 := blk_frozen KA.out 1; have fa2 := blk_frozen KA.out 2; have qa0 := fun o => blk_cell (blk_up KA.out (up_alloc w4 o)) 0 _ rfl; have qa1 := fun o => blk_cell (blk_up KA.out (up_alloc w4 o)) 1 _ rfl; have qa2 := fun o => blk_cell (blk_up KA.out (up_alloc w4 o)) 2 _ rfl; have ga0 := fun o => blk_frozen (blk_up KA.out (up_alloc w4 o)) 0; have ga1 := fun o => blk_frozen (blk_up KA.out (up_alloc w4 o)) 1; have ga2 := fun o => blk_frozen (blk_up KA.out (up_alloc w4 o)) 2; have na1 := Nat.ne_of_lt (blk_lt KA.out); have na2 := Nat.ne_of_gt (blk_lt KA.out); have rb0 := blk_cell KB.out 0 _ rfl; have rb1 := blk_cell KB.out 1 _ rfl; have rb2 := blk_cell KB.out 2 _ rfl; have rb3 := blk_cell KB.out 3 _ rfl; have fb0 := blk_frozen KB.out 0; have fb1 := blk_frozen KB.out 1; have fb2 := blk_frozen KB.out 2; have fb3 := blk_frozen KB.out 3; have qb0 := fun o => blk_cell (blk_up KB.out (up_alloc w4 o)) 0 _ rfl; have qb1 := fun o => blk_cell (blk_up KB.out (up_alloc w4 o)) 1 _ rfl; have qb2 := fun o => blk_cell (blk_up KB.out (up_alloc w4 o)) 2 _ rfl; have qb3 := fun o => blk_cell (blk_up KB.out (up_alloc w4 o)) 3 _ rfl; have gb0 := fun o => blk_frozen (blk_up KB.out (up_alloc w4 o)) 0; have gb1 := fun o => blk_frozen (blk_up KB.out (up_alloc w4 o)) 1; have gb2 := fun o => blk_frozen (blk_up KB.out (up_alloc w4 o)) 2; have gb3 := fun o => blk_frozen (blk_up KB.out (up_alloc w4 o)) 3; have nb1 := Nat.ne_of_lt (blk_lt KB.out); have nb2 := Nat.ne_of_gt (blk_lt KB.out)))
    all_goals
      go_wp2_with fail
      go_meet
      case rel =>
        first
          | with_reducible exact ⟨_, _, rfl, rfl, fin_ab O4.out I4.out M4.out u4.out⟩
          | with_reducible exact ⟨_, _, rfl, rfl, fin_ba O4.out I4.out M4.out u4.out⟩
          | with_reducible exact ⟨_, _, rfl, rfl, (fin_both KA.out KB.out (by first | exact nk1 | exact nk2 | exact na1 | exact nb2 | omega) O4.out I4.out M4.out u4.out (by (first | exact Nat.le_refl _ | exact u3.out.size | exact u4.out.size | exact Nat.le_succ _ | exact Nat.le_succ_of_le u3.out.size | exact Nat.le_succ_of_le u4.out.size)) (by (first | exact Nat.le_refl _ | exact u3.out.size | exact u4.out.size | exact Nat.le_succ _ | exact Nat.le_succ_of_le u3.out.size | exact Nat.le_succ_of_le u4.out.size)))⟩
          | with_reducible exact ⟨_, _, rfl, rfl, (fin_both (W := w4.alloc (.cells #[.slice none 0 0, .slice none 0 0, .int .i64 0, .int .i64 0] 33)) (blk_up KA.out (up_alloc _ _)) (blk_new _ _) na1 (O4.out.up (up_alloc _ _)) (I4.out.up (up_alloc _ _)) (M4.out.up (up_alloc _ _)) (up_al u4.out _) (by (first | exact Nat.le_refl _ | exact u3.out.size | exact u4.out.size | exact Nat.le_succ _ | exact Nat.le_succ_of_le u3.out.size | exact Nat.le_succ_of_le u4.out.size)) (by (first | exact Nat.le_refl _ | exact u3.out.size | exact u4.out.size | exact Nat.le_succ _ | exact Nat.le_succ_of_le u3.out.size | exact Nat.le_succ_of_le u4.out.size)))⟩
          | with_reducible exact ⟨_, _, rfl, rfl, (fin_edit (W := w4.alloc (.cells #[.slice a3 n3 c3, .int .i64 seq, .int .i64 next] 30)) (blk_new _ _) (blk_up KB.out (up_alloc _ _)) nb2 (O4.out.up (up_alloc _ _)) (I4.out.up (up_alloc _ _)) (M4.out.up (up_alloc _ _)) (up_al u4.out _) (by (first | exact Nat.le_refl _ | exact u3.out.size | exact u4.out.size | exact Nat.le_succ _ | exact Nat.le_succ_of_le u3.out.size | exact Nat.le_succ_of_le u4.out.size)))⟩
  case rest =>
    obtain ⟨NX, NY, rfl, rfl, HX, HY, UC⟩ := hcut
    obtain ⟨ax, nx, cx, hbx, hox⟩ := HX.out
    obtain ⟨ad, nd, cd, am, nm, cm, hby, hod, hom⟩ := HY.out
    have BX : Hid (wc.heap[NX]? = some (.cells #[.slice ax nx cx, .int .i64 seq, .int .i64 next] 30)) := hbx
    have BY : Hid (wc.heap[NY]? = some (.cells #[.slice ad nd cd, .slice am nm cm, .int .i64 seq2, .int .i64 next2] 33)) := hby
    have OX : Hid (MetsR wc (.slice ax nx cx) ts) := Rws.own hox
    have OD : Hid (IntsR wc (.slice ad nd cd) drop) := Rws.own hod
    have OM : Hid (MetsR wc (.slice am nm cm) add) := Rws.own hom
    have UW := hid (up_trans U1.out UC.out)
    have BV0 := hid (blk_up B0.out UC.out)
    have BE0 := hid (blk_up B1.out UC.out)
    clear hbx hby hox hod hom HX HY C8 C9 HCE x0 x1 x2 y0 y1 y2 y3 U1 UC B0 B1
    clear w1
    have CAP : Hid (∀ W, Below wc.heap.size wc W → Calls Try.prog 10 #[.agg #[.slice ax nx cx, .int .i64 seq, .int .i64 next], .agg #[.slice ad nd cd, .slice am nm cm, .int .i64 seq2, .int .i64 next2]] W (AppE W (appM ts seq next drop add seq2 next2) seq2 next2)) := fun W h => apply_any ts seq next drop add seq2 next2 ax ad am nx cx nd cd nm cm W (OX.out.up h) (OD.out.up h) (OM.out.up h) HDI.out hal
    have CRA : Hid (∀ W, Below wc.heap.size wc W → Calls Try.prog 11 #[.agg #[.slice va vn vc, .int .i64 seq, .int .i64 next], .agg #[.slice da dn dc, .slice aa an ac, .int .i64 seq2, .int .i64 next2]] W (AppR W (appM ts seq next drop add seq2 next2) seq2 next2)) := fun W h => refApply_any ts seq next drop add seq2 next2 va da aa vn vc dn dc an ac W ((HV.out.up UW.out).up h) ((HD.out.up UW.out).up h) ((HA.out.up UW.out).up h)
    have CWH : Hid (∀ W, Below wc.heap.size wc W → Calls Try.prog 12 #[.agg #[.slice ax nx cx, .int .i64 seq, .int .i64 next]] W (WhoX 65 W (whoL ts seq next) (whoN ts seq next seq) (whoN ts seq next next) (errV ts seq next))) := fun W h => whole_x ts seq next ax nx cx W (OX.out.up h)
    have CRW : Hid (∀ W, Below wc.heap.size wc W → Calls Try.prog 13 #[.agg #[.slice va vn vc, .int .i64 seq, .int .i64 next]] W (WhoX 74 W (whoL ts seq next) (whoN ts seq next seq) (whoN ts seq next next) (errV ts seq next))) := fun W h => refWhole_x ts seq next va vn vc W ((HV.out.up UW.out).up h)
    have CAT : Hid (∀ W, Below wc.heap.size wc W → Calls Try.prog 14 #[.agg #[.slice ax nx cx, .int .i64 seq, .int .i64 next], .int .i64 lev] W (AtX W (atL ts seq next lev) (errV ts seq next))) := fun W h => at_x ts seq next lev ax nx cx W (OX.out.up h)
    have CRT : Hid (∀ W, Below wc.heap.size wc W → Calls Try.prog 15 #[.agg #[.slice va vn vc, .int .i64 seq, .int .i64 next], .int .i64 lev] W (AtX W (atL ts seq next lev) (errV ts seq next))) := fun W h => refAt_x ts seq next lev va vn vc W ((HV.out.up UW.out).up h)
    have CCK : Hid (∀ W, Below wc.heap.size wc W → Calls Try.prog 20 #[.agg #[.slice ax nx cx, .int .i64 seq, .int .i64 next]] W fun e w' => e = .returned (.int .i64 (errV ts seq next)) ∧ Below W.heap.size W w') := fun W h => check_any ts seq next ax nx cx W (OX.out.up h)
    have CRC : Hid (∀ W, Below wc.heap.size wc W → Calls Try.prog 21 #[.agg #[.slice va vn vc, .int .i64 seq, .int .i64 next]] W fun e w' => e = .returned (.int .i64 (errV ts seq next)) ∧ Below W.heap.size W w') := fun W h => refCheck_any ts seq next va vn vc W ((HV.out.up UW.out).up h)
    have CAK : Hid (∀ W, Below wc.heap.size wc W → Calls Try.prog 16 #[.agg #[.slice ax nx cx, .int .i64 seq, .int .i64 next], .agg #[.slice va vn vc, .int .i64 seq, .int .i64 next]] W fun e w' => e = .returned (.int .i64 0) ∧ Below W.heap.size W w') := fun W h => alike_self ts seq next ax va nx cx vn vc W (OX.out.up h) ((HV.out.up UW.out).up h)
    have CSE : Hid (∀ W, Below wc.heap.size wc W → Calls Try.prog 18 #[.agg #[.slice ad nd cd, .slice am nm cm, .int .i64 seq2, .int .i64 next2], .agg #[.slice da dn dc, .slice aa an ac, .int .i64 seq2, .int .i64 next2]] W fun e w' => e = .returned (.bool true) ∧ Below W.heap.size W w') := fun W h => sameEdit_self drop add seq2 next2 ad am da aa nd cd nm cm dn dc an ac W (OD.out.up h) ((HD.out.up UW.out).up h) (OM.out.up h) ((HA.out.up UW.out).up h)
    have CAL : Hid (∀ W : World, Calls Try.prog 22 #[] W fun e w' => e = .returned (.bool true) ∧ Below W.heap.size W w') := fun W => alive_any W
    have CNU : Hid (∀ n W, Calls Try.prog 17 #[.int .i64 n] W fun e w' => e = .returned (.int .i64 n) ∧ w' = W) := num_any
    unfold AppE at CAP
    unfold AppR at CRA
    unfold WhoX at CWH CRW
    unfold AtX at CAT CRT
    generalize appM ts seq next drop add seq2 next2 = R at *
    obtain ⟨R1, R2⟩ := R
    simp only at CAP CRA
    obtain ⟨S1, hS1⟩ : ∃ S1, (if R2 = 0 then seq2 else 0) = S1 := ⟨_, rfl⟩
    obtain ⟨X1, hX1⟩ : ∃ X1, (if R2 = 0 then next2 else 0) = X1 := ⟨_, rfl⟩
    rw [hS1, hX1] at CAP CRA
    clear hS1 hX1
    generalize whoL ts seq next = WL at *
    generalize whoN ts seq next seq = WS at *
    generalize whoN ts seq next next = WN at *
    generalize atL ts seq next lev = AL at *
    generalize errV ts seq next = EV at *
    have CAPx : Hid (∀ W, Below wc.heap.size wc W → Calls Try.prog 10 #[.agg #[.slice ax nx cx, .int .i64 seq, .int .i64 next], .agg #[.slice ad nd cd, .slice am nm cm, .int .i64 seq2, .int .i64 next2]] W fun e w' => ∃ a l c, e = .returned (.tuple #[.agg #[.slice a l c, .int .i64 S1, .int .i64 X1], .int .i64 R2]) ∧ MetsR w' (.slice a l c) R1 ∧ Below W.heap.size W w') := fun W h => (CAP.out W h).mono fun e w' ⟨a, l, c, he, hO, hb⟩ => ⟨a, l, c, he, Rws.own hO, hb⟩
    have CRAx : Hid (∀ W, Below wc.heap.size wc W → Calls Try.prog 11 #[.agg #[.slice va vn vc, .int .i64 seq, .int .i64 next], .agg #[.slice da dn dc, .slice aa an ac, .int .i64 seq2, .int .i64 next2]] W fun e w' => ∃ a l c, e = .returned (.tuple #[.agg #[.slice a l c, .int .i64 S1, .int .i64 X1], .int .i64 R2]) ∧ MetsR w' (.slice a l c) R1 ∧ Below W.heap.size W w') := fun W h => (CRA.out W h).mono fun e w' ⟨a, l, c, he, hO, hb⟩ => ⟨a, l, c, he, Rws.own hO, hb⟩
    clear CAP CRA
    have UU : Hid (Below wc.heap.size wc wc) := Below.refl _ _
    have c_BX_0 := blk_cell BX.out 0 _ rfl
    have c_BX_1 := blk_cell BX.out 1 _ rfl
    have c_BX_2 := blk_cell BX.out 2 _ rfl
    have c_BY_0 := blk_cell BY.out 0 _ rfl
    have c_BY_1 := blk_cell BY.out 1 _ rfl
    have c_BY_2 := blk_cell BY.out 2 _ rfl
    have c_BY_3 := blk_cell BY.out 3 _ rfl
    go_wp2_with fail
    refine (CAPx.out wc UU.out).mono ?_
    rintro e wa1 ⟨a1, n1, c1, rfl, r1, v1⟩
    have V1 := hid v1
    clear v1
    obtain ⟨wb1, hwb1⟩ : ∃ wb1, wb1 = wa1.alloc (.cells #[.slice a1 n1 c1, .int .i64 S1, .int .i64 X1] 30) := ⟨_, rfl⟩
    have Hwb1 : Hid (wa1.alloc (.cells #[.slice a1 n1 c1, .int .i64 S1, .int .i64 X1] 30) = wb1) := hwb1.symm
    have T1 : Hid (Below wa1.heap.size wa1 wb1) := by rw [hwb1]; exact up_alloc _ _
    have BA1 : Hid (wb1.heap[wa1.heap.size]? = some (.cells #[.slice a1 n1 c1, .int .i64 S1, .int .i64 X1] 30)) := by rw [hwb1]; exact blk_new _ _
    clear hwb1
    clear c_BX_0 c_BX_1 c_BX_2 c_BY_0 c_BY_1 c_BY_2 c_BY_3
    go_upto_region 3 with fail
    rw [Hwb1.out]
    clear Hwb1
    have UP1 := hid (up_trans V1.out T1.out)
    replace BX := hid (blk_up BX.out UP1.out)
    replace BY := hid (blk_up BY.out UP1.out)
    replace BV0 := hid (blk_up BV0.out UP1.out)
    replace BE0 := hid (blk_up BE0.out UP1.out)
    replace UU := hid (up_trans UU.out UP1.out)
    have Q1 := hid (MetsR.up r1 T1.out)
    clear UP1 V1 r1 T1
    generalize wa1.heap.size = M1 at *
    clear wa1
    have c_BV0_0 := blk_cell BV0.out 0 _ rfl
    have c_BV0_1 := blk_cell BV0.out 1 _ rfl
    have c_BV0_2 := blk_cell BV0.out 2 _ rfl
    have c_BE0_0 := blk_cell BE0.out 0 _ rfl
    have c_BE0_1 := blk_cell BE0.out 1 _ rfl
    have c_BE0_2 := blk_cell BE0.out 2 _ rfl
    have c_BE0_3 := blk_cell BE0.out 3 _ rfl
    go_wp2_with fail
    refine (CRAx.out wb1 UU.out).mono ?_
    rintro e wa2 ⟨a2, n2, c2, rfl, r2, v2⟩
    have V2 := hid v2
    clear v2
    obtain ⟨wb2, hwb2⟩ : ∃ wb2, wb2 = wa2.alloc (.cells #[.slice a2 n2 c2, .int .i64 S1, .int .i64 X1] 24) := ⟨_, rfl⟩
    have Hwb2 : Hid (wa2.alloc (.cells #[.slice a2 n2 c2, .int .i64 S1, .int .i64 X1] 24) = wb2) := hwb2.symm
    have T2 : Hid (Below wa2.heap.size wa2 wb2) := by rw [hwb2]; exact up_alloc _ _
    have BA2 : Hid (wb2.heap[wa2.heap.size]? = some (.cells #[.slice a2 n2 c2, .int .i64 S1, .int .i64 X1] 24)) := by rw [hwb2]; exact blk_new _ _
    clear hwb2
    clear c_BV0_0 c_BV0_1 c_BV0_2 c_BE0_0 c_BE0_1 c_BE0_2 c_BE0_3
    go_upto_region 4 with fail
    rw [Hwb2.out]
    clear Hwb2
    have UP2 := hid (up_trans V2.out T2.out)
    replace BX := hid (blk_up BX.out UP2.out)
    replace BY := hid (blk_up BY.out UP2.out)
    replace BV0 := hid (blk_up BV0.out UP2.out)
    replace BE0 := hid (blk_up BE0.out UP2.out)
    replace BA1 := hid (blk_up BA1.out UP2.out)
    replace Q1 := hid (Q1.out.up UP2.out)
    replace UU := hid (up_trans UU.out UP2.out)
    have Q2 := hid (MetsR.up r2 T2.out)
    clear UP2 V2 r2 T2
    generalize wa2.heap.size = M2 at *
    clear wa2
    have c_BX_0 := blk_cell BX.out 0 _ rfl
    have c_BX_1 := blk_cell BX.out 1 _ rfl
    have c_BX_2 := blk_cell BX.out 2 _ rfl
    go_wp2_with fail
    refine (CWH.out wb2 UU.out).mono ?_
    rintro e wa3 ⟨a3, n3, c3, rfl, r3, v3⟩
    have V3 := hid v3
    clear v3
    obtain ⟨wb3, hwb3⟩ : ∃ wb3, wb3 = wa3.alloc (.cells #[.slice none 0 0, .slice a3 n3 c3, .int .i64 WS, .int .i64 WN] 33) := ⟨_, rfl⟩
    have Hwb3 : Hid (wa3.alloc (.cells #[.slice none 0 0, .slice a3 n3 c3, .int .i64 WS, .int .i64 WN] 33) = wb3) := hwb3.symm
    have T3 : Hid (Below wa3.heap.size wa3 wb3) := by rw [hwb3]; exact up_alloc _ _
    have BA3 : Hid (wb3.heap[wa3.heap.size]? = some (.cells #[.slice none 0 0, .slice a3 n3 c3, .int .i64 WS, .int .i64 WN] 33)) := by rw [hwb3]; exact blk_new _ _
    clear hwb3
    clear c_BX_0 c_BX_1 c_BX_2
    go_upto_region 5 with fail
    rw [Hwb3.out]
    clear Hwb3
    have UP3 := hid (up_trans V3.out T3.out)
    replace BX := hid (blk_up BX.out UP3.out)
    replace BY := hid (blk_up BY.out UP3.out)
    replace BV0 := hid (blk_up BV0.out UP3.out)
    replace BE0 := hid (blk_up BE0.out UP3.out)
    replace BA1 := hid (blk_up BA1.out UP3.out)
    replace BA2 := hid (blk_up BA2.out UP3.out)
    replace Q1 := hid (Q1.out.up UP3.out)
    replace Q2 := hid (Q2.out.up UP3.out)
    replace UU := hid (up_trans UU.out UP3.out)
    have Q3 := hid (MetsR.up r3 T3.out)
    clear UP3 V3 r3 T3
    generalize wa3.heap.size = M3 at *
    clear wa3
    have c_BV0_0 := blk_cell BV0.out 0 _ rfl
    have c_BV0_1 := blk_cell BV0.out 1 _ rfl
    have c_BV0_2 := blk_cell BV0.out 2 _ rfl
    go_wp2_with fail
    refine (CRW.out wb3 UU.out).mono ?_
    rintro e wa4 ⟨a4, n4, c4, rfl, r4, v4⟩
    have V4 := hid v4
    clear v4
    obtain ⟨wb4, hwb4⟩ : ∃ wb4, wb4 = wa4.alloc (.cells #[.slice none 0 0, .slice a4 n4 c4, .int .i64 WS, .int .i64 WN] 27) := ⟨_, rfl⟩
    have Hwb4 : Hid (wa4.alloc (.cells #[.slice none 0 0, .slice a4 n4 c4, .int .i64 WS, .int .i64 WN] 27) = wb4) := hwb4.symm
    have T4 : Hid (Below wa4.heap.size wa4 wb4) := by rw [hwb4]; exact up_alloc _ _
    have BA4 : Hid (wb4.heap[wa4.heap.size]? = some (.cells #[.slice none 0 0, .slice a4 n4 c4, .int .i64 WS, .int .i64 WN] 27)) := by rw [hwb4]; exact blk_new _ _
    clear hwb4
    clear c_BV0_0 c_BV0_1 c_BV0_2
    go_upto_region 6 with fail
    rw [Hwb4.out]
    clear Hwb4
    have UP4 := hid (up_trans V4.out T4.out)
    replace BX := hid (blk_up BX.out UP4.out)
    replace BY := hid (blk_up BY.out UP4.out)
    replace BV0 := hid (blk_up BV0.out UP4.out)
    replace BE0 := hid (blk_up BE0.out UP4.out)
    replace BA1 := hid (blk_up BA1.out UP4.out)
    replace BA2 := hid (blk_up BA2.out UP4.out)
    replace BA3 := hid (blk_up BA3.out UP4.out)
    replace Q1 := hid (Q1.out.up UP4.out)
    replace Q2 := hid (Q2.out.up UP4.out)
    replace Q3 := hid (Q3.out.up UP4.out)
    replace UU := hid (up_trans UU.out UP4.out)
    have Q4 := hid (MetsR.up r4 T4.out)
    clear UP4 V4 r4 T4
    generalize wa4.heap.size = M4 at *
    clear wa4
    have c_BX_0 := blk_cell BX.out 0 _ rfl
    have c_BX_1 := blk_cell BX.out 1 _ rfl
    have c_BX_2 := blk_cell BX.out 2 _ rfl
    go_wp2_with fail
    refine (CAT.out wb4 UU.out).mono ?_
    rintro e wa5 ⟨a5, n5, c5, rfl, r5, v5⟩
    have V5 := hid v5
    clear v5
    clear c_BX_0 c_BX_1 c_BX_2
    go_upto_region 7 with fail
    have UP5 := hid V5.out
    replace BX := hid (blk_up BX.out UP5.out)
    replace BY := hid (blk_up BY.out UP5.out)
    replace BV0 := hid (blk_up BV0.out UP5.out)
    replace BE0 := hid (blk_up BE0.out UP5.out)
    replace BA1 := hid (blk_up BA1.out UP5.out)
    replace BA2 := hid (blk_up BA2.out UP5.out)
    replace BA3 := hid (blk_up BA3.out UP5.out)
    replace BA4 := hid (blk_up BA4.out UP5.out)
    replace Q1 := hid (Q1.out.up UP5.out)
    replace Q2 := hid (Q2.out.up UP5.out)
    replace Q3 := hid (Q3.out.up UP5.out)
    replace Q4 := hid (Q4.out.up UP5.out)
    replace UU := hid (up_trans UU.out UP5.out)
    have Q5 := hid r5
    clear UP5 V5 r5
    have c_BV0_0 := blk_cell BV0.out 0 _ rfl
    have c_BV0_1 := blk_cell BV0.out 1 _ rfl
    have c_BV0_2 := blk_cell BV0.out 2 _ rfl
    go_wp2_with fail
    refine (CRT.out wa5 UU.out).mono ?_
    rintro e wa6 ⟨a6, n6, c6, rfl, r6, v6⟩
    have V6 := hid v6
    clear v6
    clear c_BV0_0 c_BV0_1 c_BV0_2
    go_upto_region 8 with fail
    have UP6 := hid V6.out
    replace BX := hid (blk_up BX.out UP6.out)
    replace BY := hid (blk_up BY.out UP6.out)
    replace BV0 := hid (blk_up BV0.out UP6.out)
    replace BE0 := hid (blk_up BE0.out UP6.out)
    replace BA1 := hid (blk_up BA1.out UP6.out)
    replace BA2 := hid (blk_up BA2.out UP6.out)
    replace BA3 := hid (blk_up BA3.out UP6.out)
    replace BA4 := hid (blk_up BA4.out UP6.out)
    replace Q1 := hid (Q1.out.up UP6.out)
    replace Q2 := hid (Q2.out.up UP6.out)
    replace Q3 := hid (Q3.out.up UP6.out)
    replace Q4 := hid (Q4.out.up UP6.out)
    replace Q5 := hid (Q5.out.up UP6.out)
    replace UU := hid (up_trans UU.out UP6.out)
    have Q6 := hid r6
    clear UP6 V6 r6
    have CK1 := hid (fun (W : World) (h : Below wa6.heap.size wa6 W) => alike_self R1 S1 X1 a1 a2 n1 c1 n2 c2 W (Q1.out.up h) (Q2.out.up h))
    have CK2 := hid (fun (W : World) (h : Below wa6.heap.size wa6 W) => sameEdit_self [] WL WS WN none a3 none a4 0 0 n3 c3 0 0 n4 c4 W (Rws.nil _ _) (Rws.nil _ _) (Q3.out.up h) (Q4.out.up h))
    have CK3 := hid (fun (W : World) (h : Below wa6.heap.size wa6 W) => sameMetas_self AL _ _ W (Q5.out.up h) (Q6.out.up h))
    have hR2 : (R2 == R2) = true := by simp
    have hEV : (EV == EV) = true := by simp
    have c_BA1_0 := blk_cell BA1.out 0 _ rfl
    have c_BA1_1 := blk_cell BA1.out 1 _ rfl
    have c_BA1_2 := blk_cell BA1.out 2 _ rfl
    have c_BA2_0 := blk_cell BA2.out 0 _ rfl
    have c_BA2_1 := blk_cell BA2.out 1 _ rfl
    have c_BA2_2 := blk_cell BA2.out 2 _ rfl
    go_wp2_with fail
    refine (CK1.out _ (Below.refl _ _)).mono ?_
    rintro e wd1 ⟨rfl, d1⟩
    clear c_BA1_0 c_BA1_1 c_BA1_2 c_BA2_0 c_BA2_1 c_BA2_2
    go_wp2_with fail
    refine (CNU.out _ _).mono ?_
    rintro e wd2 ⟨rfl, hwd2⟩
    subst hwd2
    replace BA3 := hid (blk_up BA3.out d1.out)
    replace BA4 := hid (blk_up BA4.out d1.out)
    have c_BA3_0 := blk_cell BA3.out 0 _ rfl
    have c_BA3_1 := blk_cell BA3.out 1 _ rfl
    have c_BA3_2 := blk_cell BA3.out 2 _ rfl
    have c_BA3_3 := blk_cell BA3.out 3 _ rfl
    have c_BA4_0 := blk_cell BA4.out 0 _ rfl
    have c_BA4_1 := blk_cell BA4.out 1 _ rfl
    have c_BA4_2 := blk_cell BA4.out 2 _ rfl
    have c_BA4_3 := blk_cell BA4.out 3 _ rfl
    go_wp2_with fail
    refine (CK2.out _ d1.out).mono ?_
    rintro e wd3 ⟨rfl, d3⟩
    clear c_BA3_0 c_BA3_1 c_BA3_2 c_BA3_3 c_BA4_0 c_BA4_1 c_BA4_2 c_BA4_3
    go_wp2_with fail
    refine (CNU.out _ _).mono ?_
    rintro e wd4 ⟨rfl, hwd4⟩
    subst hwd4
    go_wp2_with fail
    refine (CK3.out _ (up_trans d1.out d3.out)).mono ?_
    rintro e wd5 ⟨rfl, dd, hd5⟩
    have D5 := hid (up_trans d1.out d3.out)
    have DZ : Hid (Below wa6.heap.size wa6 (wd4.drewN dd)) := up_trans D5.out (up_drewN _ _)
    subst hd5
    generalize wd4.drewN dd = wz at *
    go_wp2_with fail
    refine (CNU.out _ _).mono ?_
    rintro e wd6 ⟨rfl, hwd6⟩
    subst hwd6
    have UZ := hid (up_trans UU.out DZ.out)
    replace BX := hid (blk_up BX.out DZ.out)
    replace BY := hid (blk_up BY.out DZ.out)
    replace BV0 := hid (blk_up BV0.out DZ.out)
    replace BE0 := hid (blk_up BE0.out DZ.out)
    have k20 : Hid (∀ p : UpW wd6, Calls Try.prog 20 #[.agg #[.slice ax nx cx, .int .i64 seq, .int .i64 next]] p.val fun e w' => e = .returned (.int .i64 EV) ∧ Below p.val.heap.size p.val w') := fun p => CCK.out _ (up_trans UZ.out p.up)
    have k21 : Hid (∀ p : UpW wd6, Calls Try.prog 21 #[.agg #[.slice va vn vc, .int .i64 seq, .int .i64 next]] p.val fun e w' => e = .returned (.int .i64 EV) ∧ Below p.val.heap.size p.val w') := fun p => CRC.out _ (up_trans UZ.out p.up)
    have k16 : Hid (∀ p : UpW wd6, Calls Try.prog 16 #[.agg #[.slice ax nx cx, .int .i64 seq, .int .i64 next], .agg #[.slice va vn vc, .int .i64 seq, .int .i64 next]] p.val fun e w' => e = .returned (.int .i64 0) ∧ Below p.val.heap.size p.val w') := fun p => CAK.out _ (up_trans UZ.out p.up)
    have k18 : Hid (∀ p : UpW wd6, Calls Try.prog 18 #[.agg #[.slice ad nd cd, .slice am nm cm, .int .i64 seq2, .int .i64 next2], .agg #[.slice da dn dc, .slice aa an ac, .int .i64 seq2, .int .i64 next2]] p.val fun e w' => e = .returned (.bool true) ∧ Below p.val.heap.size p.val w') := fun p => CSE.out _ (up_trans UZ.out p.up)
    have k22 : Hid (∀ p : UpW wd6, Calls Try.prog 22 #[] p.val fun e w' => e = .returned (.bool true) ∧ Below p.val.heap.size p.val w') := fun p => CAL.out _
    have k17 : Hid (∀ p : UpW wd6, Calls Try.prog 17 #[.int .i64 EV] p.val fun e w' => e = .returned (.int .i64 EV) ∧ Below p.val.heap.size p.val w') := fun p => (CNU.out EV p.val).mono fun e w' ⟨he, hw⟩ => ⟨he, by rw [hw]; exact Below.refl _ _⟩
    have c_BX_0 := cell_up (blk_cell BX.out 0 _ rfl)
    have c_BX_1 := cell_up (blk_cell BX.out 1 _ rfl)
    have c_BX_2 := cell_up (blk_cell BX.out 2 _ rfl)
    have c_BY_0 := cell_up (blk_cell BY.out 0 _ rfl)
    have c_BY_1 := cell_up (blk_cell BY.out 1 _ rfl)
    have c_BY_2 := cell_up (blk_cell BY.out 2 _ rfl)
    have c_BY_3 := cell_up (blk_cell BY.out 3 _ rfl)
    have c_BV0_0 := cell_up (blk_cell BV0.out 0 _ rfl)
    have c_BV0_1 := cell_up (blk_cell BV0.out 1 _ rfl)
    have c_BV0_2 := cell_up (blk_cell BV0.out 2 _ rfl)
    have c_BE0_0 := cell_up (blk_cell BE0.out 0 _ rfl)
    have c_BE0_1 := cell_up (blk_cell BE0.out 1 _ rfl)
    have c_BE0_2 := cell_up (blk_cell BE0.out 2 _ rfl)
    have c_BE0_3 := cell_up (blk_cell BE0.out 3 _ rfl)
    have HFW := hid (up_trans UW.out UZ.out)
    go_wp2_with fail
    refine wp_region_up (by kernel_rfl) (by kernel_rfl) ?_
    repeat (go_big_quiet_step ((first | (go_at_call 20; refine calls_up (k20.out _)) | (go_at_call 21; refine calls_up (k21.out _)) | (go_at_call 16; refine calls_up (k16.out _)) | (go_at_call 18; refine calls_up (k18.out _)) | (go_at_call 22; refine calls_up (k22.out _)) | (go_at_call 17; refine calls_up (k17.out _)))))
    refine wpQuiet_nil ?_
    intro _ hw'
    obtain ⟨pz, hw''⟩ := hw'
    subst hw''
    go_wp2_with fail
    go_ret
    exact ⟨rfl, up_trans HFW.out pz.up⟩
end Go.Proofs.Ytbknoplfjfnbcaa
