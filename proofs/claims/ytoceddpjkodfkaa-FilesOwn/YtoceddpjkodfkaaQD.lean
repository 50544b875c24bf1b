/- An act, whichever it is. -/
import Derived.Test.YtoceddpjkodfkaaQC
namespace Go.Proofs.Ytoceddpjkodfkaa
open Go.RowKit
set_option linter.unusedVariables false
set_option linter.unusedSimpArgs false

/-- An act. -/
structure Ac where
  what : Int
  name : List Int
  dest : List Int
  data : List Int

def okAc (a : Ac) : Prop := In64 a.what ∧ OctL a.name ∧ a.name.length ≤ 140737488355328 ∧ OctL a.dest ∧ a.dest.length ≤ 140737488355328 ∧ a.data.length ≤ 140737488355328

def AcW (w : World) (v : Value) (a : Ac) : Prop := ∃ vd, v = .agg #[.int .i64 a.what, .string (strOfNums a.name), .string (strOfNums a.dest), vd] ∧ Octs w vd a.data ∧ okAc a

theorem AcW.up {w w' : World} {v : Value} {a : Ac} (h : AcW w v a) (hb : Below w.heap.size w w') : AcW w' v a := by
  obtain ⟨vd, e, h1, h2⟩ := h
  exact ⟨vd, e, h1.up hb, h2⟩

/-- What the program makes of a state by an act, and the error. -/
def actP (s : St) (a : Ac) : St × Int :=
  if a.what = 1 then createP s a.name else if a.what = 2 then extendP s a.name a.data else if a.what = 3 then syncP s a.name else
  if a.what = 4 then renameP s a.name a.dest else if a.what = 5 then removeP s a.name else if a.what = 6 then (syncNamesP s, 0) else (s, 22)

/-- A state that acts may be done on. -/
def Sound (s : St) : Prop := Fine s ∧ (0 ≤ s.cap ∧ s.cap ≤ 16777216) ∧ (1 ≤ s.next ∧ s.next ≤ 2147483647)

set_option maxHeartbeats 2000000 in
theorem act_any (s : St) (a : Ac) (v : Value) (base B : Nat) (w : World) (hS : OwnS w base B s) (hF : Sound s) (ha : AcW w v a) (hbase : base ≤ w.heap.size) :
    Calls Try.prog 33 #[.pointer (some ⟨B, 0, none⟩), v] w fun e w' => e = .returned (.int .i64 (actP s a).2) ∧ OwnS w' base B (actP s a).1 ∧ Beside base B w w' := by
  obtain ⟨vd, rfl, hd, hok⟩ := ha
  obtain ⟨ad, cd, evd, _⟩ := hd.slice
  subst evd
  obtain ⟨wx, hwx⟩ : ∃ wx, wx = w.alloc (.cells #[.int .i64 a.what, .string (strOfNums a.name), .string (strOfNums a.dest), .slice ad a.data.length cd] 28) := ⟨_, rfl⟩
  have bx := blk_new w (.cells #[.int .i64 a.what, .string (strOfNums a.name), .string (strOfNums a.dest), .slice ad a.data.length cd] 28)
  rw [← hwx] at bx
  have ux : Below w.heap.size w wx := by rw [hwx]; exact up_al (Below.refl _ _) _
  have HX : Hid (w.alloc (.cells #[.int .i64 a.what, .string (strOfNums a.name), .string (strOfNums a.dest), .slice ad a.data.length cd] 28) = wx) := hwx.symm
  have HS : Hid (OwnS wx base B s ∧ Octs wx (.slice ad a.data.length cd) a.data ∧ okAc a ∧ Sound s ∧ Beside base B w wx) := ⟨hS.up ux, hd.up ux, hok, hF, Below_beside ux hbase⟩
  have hbx : base ≤ wx.heap.size := Nat.le_trans hbase ux.size
  have q0 := blk_cell bx 0 _ rfl
  have q1 := blk_cell bx 1 _ rfl
  have q2 := blk_cell bx 2 _ rfl
  have q3 := blk_cell bx 3 _ rfl
  have fin : ∀ (r : St × Int), actP s a = r → ∀ e w', (e = Ending.returned (.int .i64 r.2) ∧ OwnS w' base B r.1 ∧ Beside base B wx w') → Hid (OwnS w' base B (actP s a).1 ∧ Beside base B w w') := by
    intro r hr e w' h
    rw [hr]
    exact ⟨h.2.1, HS.out.2.2.2.2.trans h.2.2⟩
  have HFin : Hid (∀ (r : St × Int), actP s a = r → ∀ e w', (e = Ending.returned (.int .i64 r.2) ∧ OwnS w' base B r.1 ∧ Beside base B wx w') → Hid (OwnS w' base B (actP s a).1 ∧ Beside base B w w')) := fin
  clear hS hF hd hok hwx bx ux fin
  go_enter Try.func33, Try.ntmps33
  go_upto_region 1 with fail
  rw [HX.out]
  clear HX
  by_cases c1 : a.what = 1
  · have HA : Hid (actP s a = createP s a.name) := by unfold Hid actP; rw [if_pos c1]
    go_wp2_with fail
    refine (create_any s a.name HS.out.2.2.1.2.1 HS.out.2.2.1.2.2.1 base B wx HS.out.1 HS.out.2.2.2.1.1 HS.out.2.2.2.1.2.2 hbx).mono ?_
    rintro e w1 h1
    have H2 := HFin.out _ HA.out e w1 h1
    obtain ⟨rfl, _⟩ := h1
    rw [← HA.out]
    clear q0 q1 q2 q3
    go_wp2_with fail
    go_ret
    exact ⟨rfl, H2.out⟩
  · have d1 : (a.what == 1) = false := by rw [beq_eq_false_iff_ne]; exact c1
    by_cases c2 : a.what = 2
    · have HA : Hid (actP s a = extendP s a.name a.data) := by unfold Hid actP; rw [if_neg c1, if_pos c2]
      clear c1 d1
      go_wp2_with fail
      refine (extend_any s a.name a.data HS.out.2.2.1.2.1 _ base B wx HS.out.1 HS.out.2.2.2.1.1 HS.out.2.1 HS.out.2.2.2.1.2.1 hbx).mono ?_
      rintro e w1 h1
      have H2 := HFin.out _ HA.out e w1 h1
      obtain ⟨rfl, _⟩ := h1
      rw [← HA.out]
      clear q0 q1 q2 q3
      go_wp2_with fail
      go_ret
      exact ⟨rfl, H2.out⟩
    · have d2 : (a.what == 2) = false := by rw [beq_eq_false_iff_ne]; exact c2
      by_cases c3 : a.what = 3
      · have HA : Hid (actP s a = syncP s a.name) := by unfold Hid actP; rw [if_neg c1, if_neg c2, if_pos c3]
        clear c1 d1 c2 d2
        go_wp2_with fail
        refine (syncFile_any s a.name HS.out.2.2.1.2.1 base B wx HS.out.1 HS.out.2.2.2.1.1 hbx).mono ?_
        rintro e w1 h1
        have H2 := HFin.out _ HA.out e w1 h1
        obtain ⟨rfl, _⟩ := h1
        rw [← HA.out]
        clear q0 q1 q2 q3
        go_wp2_with fail
        go_ret
        exact ⟨rfl, H2.out⟩
      · have d3 : (a.what == 3) = false := by rw [beq_eq_false_iff_ne]; exact c3
        by_cases c4 : a.what = 4
        · have HA : Hid (actP s a = renameP s a.name a.dest) := by unfold Hid actP; rw [if_neg c1, if_neg c2, if_neg c3, if_pos c4]
          clear c1 d1 c2 d2 c3 d3
          go_wp2_with fail
          refine (rename_any s a.name a.dest HS.out.2.2.1.2.1 HS.out.2.2.1.2.2.2.1 HS.out.2.2.1.2.2.2.2.1 base B wx HS.out.1 HS.out.2.2.2.1.1 hbx).mono ?_
          rintro e w1 h1
          have H2 := HFin.out _ HA.out e w1 h1
          obtain ⟨rfl, _⟩ := h1
          rw [← HA.out]
          clear q0 q1 q2 q3
          go_wp2_with fail
          go_ret
          exact ⟨rfl, H2.out⟩
        · have d4 : (a.what == 4) = false := by rw [beq_eq_false_iff_ne]; exact c4
          by_cases c5 : a.what = 5
          · have HA : Hid (actP s a = removeP s a.name) := by unfold Hid actP; rw [if_neg c1, if_neg c2, if_neg c3, if_neg c4, if_pos c5]
            clear c1 d1 c2 d2 c3 d3 c4 d4
            go_wp2_with fail
            refine (remove_any s a.name HS.out.2.2.1.2.1 base B wx HS.out.1 HS.out.2.2.2.1.1 hbx).mono ?_
            rintro e w1 h1
            have H2 := HFin.out _ HA.out e w1 h1
            obtain ⟨rfl, _⟩ := h1
            rw [← HA.out]
            clear q0 q1 q2 q3
            go_wp2_with fail
            go_ret
            exact ⟨rfl, H2.out⟩
          · have d5 : (a.what == 5) = false := by rw [beq_eq_false_iff_ne]; exact c5
            by_cases c6 : a.what = 6
            · have HA : Hid (actP s a = (syncNamesP s, 0)) := by unfold Hid actP; rw [if_neg c1, if_neg c2, if_neg c3, if_neg c4, if_neg c5, if_pos c6]
              have HA2 : Hid ((actP s a).2 = 0) := by unfold Hid; rw [HA.out]
              clear c1 d1 c2 d2 c3 d3 c4 d4 c5 d5
              go_wp2_with fail
              refine (syncNames_any s base B wx HS.out.1 HS.out.2.2.2.1.1 hbx).mono ?_
              rintro e w1 h1
              have H2 := HFin.out _ HA.out e w1 h1
              obtain ⟨rfl, _⟩ := h1
              clear q0 q1 q2 q3
              go_wp2_with fail
              go_ret
              rw [HA2.out]
              exact ⟨rfl, H2.out⟩
            · have d6 : (a.what == 6) = false := by rw [beq_eq_false_iff_ne]; exact c6
              have HA : Hid (actP s a = (s, 22)) := by unfold Hid actP; rw [if_neg c1, if_neg c2, if_neg c3, if_neg c4, if_neg c5, if_neg c6]
              go_wp2_with fail
              go_ret
              rw [HA.out]
              exact ⟨rfl, HS.out.1, HS.out.2.2.2.2⟩
end Go.Proofs.Ytoceddpjkodfkaa
