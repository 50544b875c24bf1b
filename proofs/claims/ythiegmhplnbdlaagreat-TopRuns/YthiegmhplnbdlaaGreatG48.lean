/- Texts of layers 1 to 13, in this order. -/
import Derived.Test.YthiegmhplnbdlaaGreatG12
import Derived.Test.YthiegmhplnbdlaaGreatG20
import Derived.Test.YthiegmhplnbdlaaGreatG09
import Derived.Test.YthiegmhplnbdlaaGreatG15
import Derived.Test.YthiegmhplnbdlaaGreatG08
import Derived.Test.YthiegmhplnbdlaaGreatG16

namespace Go.Proofs.YthiegmhplnbdlaaGreat
open Go.RowKit
set_option linter.unusedVariables false
set_option linter.unusedSimpArgs false
def BehR (s : Sk) (a : Nat) (y : En) (b : Bool) : Prop := (b = false ∧ y = default ∧ s.way a 0 = 0) ∨ ∃ k : Nat, b = true ∧ y = (s.at' k).1 ∧ s.way a 0 = (k : Int) + 1 ∧ k < s.nodes.length
theorem behind_anyP (s : Sk) (es : List (En × Value)) (vN vH : Value) (x : En) (a0 a1 a2 a3 a4 a5 a6 a7 : Nat) (w : World) (h : SkE w vN vH s es) (g : Good s) (hc : CutAt s s.ord x 0 a0) :
    Calls Tryz.prog 32 #[.agg #[vN, vH], .agg #[natV a0, natV a1, natV a2, natV a3, natV a4, natV a5, natV a6, natV a7]] w fun e w' => ∃ y b, e = .returned (.tuple #[enV y, .bool b]) ∧ Hid (BehR s a0 y b) ∧ Hid (Below w.heap.size w w') := by
  have ha := hc.on.bound (fun k hk => (g.mem k).1 hk)
  have hl := hc.on.ways g.head (by omega)
  by_cases hz : s.way a0 0 = 0
  · refine (behind_none s es vN vH a0 a1 a2 a3 a4 a5 a6 a7 w h ha hl hz).mono ?_
    rintro e w' ⟨rfl, hb⟩
    exact ⟨default, false, rfl, .inl ⟨rfl, rfl, hz⟩, hb⟩
  · obtain ⟨k, hkw, hkn, _⟩ := cut_some g hc hz
    refine (behind_some s es vN vH a0 a1 a2 a3 a4 a5 a6 a7 k w h ha hl hkw hkn).mono ?_
    rintro e w' ⟨rfl, hb⟩
    exact ⟨_, true, rfl, .inr ⟨k, rfl, rfl, hkw, hkn⟩, hb⟩
def getV (s : Sk) (key : ByteArray) (seq : Int) : En × Bool × Int :=
  if checkS s = false then (default, false, 9) else match firstS s.all key seq with | none => (default, false, 0) | some y => (y, true, 0)
def GtB (w wr : World) (vN vH : Value) : Prop :=
  Below w.heap.size w wr ∧ wr.heap[w.heap.size]? = some (.cells #[vN, vH] 39) ∧ wr.heap[w.heap.size + 1]? = some (.cells #[.string ⟨#[]⟩, .int .i64 0, .int .i64 0, .string ⟨#[]⟩] 50)
theorem GtB.up {w wr w' : World} {vN vH : Value} (h : GtB w wr vN vH) (hb : Below wr.heap.size wr w') : GtB w w' vN vH :=
  ⟨up_trans h.1 hb, blk_up h.2.1 hb, blk_up h.2.2 hb⟩
theorem GtB.set {w wr w' : World} {vN vH : Value} {g : Nat} (h : GtB w wr vN vH) (hg : wr.grownBy w' (some g)) (h2 : w.heap.size + 1 < g) : GtB w w' vN vH :=
  ⟨h.1.grown hg h.1.size (fun k hk => by injection hk with hk; omega), blk_grown h.2.1 hg (by simp; omega), blk_grown h.2.2 hg (by simp; omega)⟩
set_option maxHeartbeats 4000000 in
set_option maxRecDepth 100000 in
theorem get_anyP (s : Sk) (es : List (En × Value)) (vN vH : Value) (key : ByteArray) (seq : Int) (w : World) (hV : SkE w vN vH s es) :
    Calls Tryz.prog 19 #[.agg #[vN, vH], .string key, .int .i64 seq] w fun e w' => e = .returned (.tuple #[enV (getV s key seq).1, .bool (getV s key seq).2.1, .int .i64 (getV s key seq).2.2]) ∧ Hid (Below w.heap.size w w') := by
  obtain ⟨⟨aN, cN, rfl⟩, ⟨aH, cH, rfl⟩⟩ := hV.form
  have HV : Hid (SkE w (.slice aN s.nodes.length cN) (.slice aH s.head.length cH) s es) := hV
  clear hV
  obtain ⟨wa, hwa⟩ : ∃ wa, wa = (w.alloc (.cells #[.slice aN s.nodes.length cN, .slice aH s.head.length cH] 39)).alloc (.cells #[.string ⟨#[]⟩, .int .i64 0, .int .i64 0, .string ⟨#[]⟩] 50) := ⟨_, rfl⟩
  have HWA : Hid ((w.alloc (.cells #[.slice aN s.nodes.length cN, .slice aH s.head.length cH] 39)).alloc (.cells #[.string ⟨#[]⟩, .int .i64 0, .int .i64 0, .string ⟨#[]⟩] 50) = wa) := hwa.symm
  have HB : Hid (GtB w wa (.slice aN s.nodes.length cN) (.slice aH s.head.length cH)) := by
    have b1 := blk_new (w.alloc (.cells #[.slice aN s.nodes.length cN, .slice aH s.head.length cH] 39)) (.cells #[.string ⟨#[]⟩, .int .i64 0, .int .i64 0, .string ⟨#[]⟩] 50)
    have e : (w.alloc (.cells #[.slice aN s.nodes.length cN, .slice aH s.head.length cH] 39)).heap.size = w.heap.size + 1 := by simp
    rw [e, ← hwa] at b1
    exact ⟨by rw [hwa]; exact up_al (up_al (Below.refl _ _) _) _, by rw [hwa]; exact blk_up (blk_new w _) (up_alloc _ _), b1⟩
  have p0 : wa.cell? ⟨w.heap.size, 0, none⟩ = some (.slice aN s.nodes.length cN) := blk_cell HB.out.2.1 0 _ rfl
  have p1 : wa.cell? ⟨w.heap.size, 1, none⟩ = some (.slice aH s.head.length cH) := blk_cell HB.out.2.1 1 _ rfl
  have HC := check_any s es _ _ wa (HV.out.up HB.out.1)
  clear hwa
  have HEND : Hid (∀ (wz : World) (y : En) (b : Bool) (code : Int), GtB w wz (.slice aN s.nodes.length cN) (.slice aH s.head.length cH) → getV s key seq = (y, b, code) →
      ((((wz.setCell ⟨w.heap.size + 1, 0, none⟩ (.string y.key)).setCell ⟨w.heap.size + 1, 1, none⟩ (.int .i64 y.seq)).setCell ⟨w.heap.size + 1, 2, none⟩ (.int .i64 y.kind)).setCell ⟨w.heap.size + 1, 3, none⟩ (.string y.val)).heap[w.heap.size + 1]? = some (.cells #[.string y.key, .int .i64 y.seq, .int .i64 y.kind, .string y.val] 50) ∧
      (Ending.returned (.tuple #[.agg #[.string y.key, .int .i64 y.seq, .int .i64 y.kind, .string y.val], .bool b, .int .i64 code]) = .returned (.tuple #[enV (getV s key seq).1, .bool (getV s key seq).2.1, .int .i64 (getV s key seq).2.2]) ∧ Hid (Below w.heap.size w ((((wz.setCell ⟨w.heap.size + 1, 0, none⟩ (.string y.key)).setCell ⟨w.heap.size + 1, 1, none⟩ (.int .i64 y.seq)).setCell ⟨w.heap.size + 1, 2, none⟩ (.int .i64 y.kind)).setCell ⟨w.heap.size + 1, 3, none⟩ (.string y.val))))) := by
    intro wz y b code hb he
    refine ⟨set4_blk hb.2.2 _ _ _ _, by rw [he]; rfl, ?_⟩
    exact hb.1.grown (set4_grown wz (w.heap.size + 1) _ _ _ _) hb.1.size (fun k hk => by injection hk with hk; rw [← hk]; omega)
  have HCELLS : Hid (∀ wz, GtB w wz (.slice aN s.nodes.length cN) (.slice aH s.head.length cH) → wz.cell? ⟨w.heap.size + 1, 0, none⟩ = some (.string ⟨#[]⟩) ∧ wz.cell? ⟨w.heap.size + 1, 1, none⟩ = some (.int .i64 0) ∧ wz.cell? ⟨w.heap.size + 1, 2, none⟩ = some (.int .i64 0) ∧ wz.cell? ⟨w.heap.size + 1, 3, none⟩ = some (.string ⟨#[]⟩) ∧ ∀ k, wz.frozen? ⟨w.heap.size + 1, k, none⟩ = false) := fun wz hb => ⟨blk_cell hb.2.2 0 _ rfl, blk_cell hb.2.2 1 _ rfl, blk_cell hb.2.2 2 _ rfl, blk_cell hb.2.2 3 _ rfl, fun k => blk_frozen hb.2.2 k⟩
  go_enter Tryz.func19, Tryz.ntmps19
  go_upto_region 1 with fail
  rw [HWA.out]
  clear HWA
  go_wp2_with fail
  refine HC.mono ?_
  rintro e w1 ⟨rfl, U1⟩
  have HB1 : Hid (GtB w w1 (.slice aN s.nodes.length cN) (.slice aH s.head.length cH)) := HB.out.up U1.out
  clear HC p0 p1 HB U1
  by_cases hG : checkS s = true
  · have e0 : errC s = 0 := by unfold errC; rw [if_pos hG]
    rw [e0]
    have HG : Hid (Good s) := (checkS_iff s).1 hG
    have HCK : Hid (checkS s = true) := hG
    clear hG e0
    have q0 : w1.cell? ⟨w.heap.size, 0, none⟩ = some (.slice aN s.nodes.length cN) := blk_cell HB1.out.2.1 0 _ rfl
    have q1 : w1.cell? ⟨w.heap.size, 1, none⟩ = some (.slice aH s.head.length cH) := blk_cell HB1.out.2.1 1 _ rfl
    have HC1 : Hid (∀ (X : World) (T : Nat), Below w1.heap.size w1 X → X.heap[T]? = some (.cells #[.string ⟨#[]⟩, .int .i64 0, .int .i64 0, .string ⟨#[]⟩] 50) → Calls Tryz.prog 31 #[.agg #[.slice aN s.nodes.length cN, .slice aH s.head.length cH], .agg #[.string key, .int .i64 seq, .int .i64 0, .string ⟨#[]⟩]] X fun e w' => ∃ a0 a1 a2 a3 a4 a5 a6 a7 : Nat, e = .returned (.agg #[.int .i64 (a0 : Int), .int .i64 (a1 : Int), .int .i64 (a2 : Int), .int .i64 (a3 : Int), .int .i64 (a4 : Int), .int .i64 (a5 : Int), .int .i64 (a6 : Int), .int .i64 (a7 : Int)]) ∧ ¬ w'.heap.size = w.heap.size ∧ ¬ w.heap.size = w'.heap.size ∧ w'.cell? ⟨w.heap.size, 0, none⟩ = some (.slice aN s.nodes.length cN) ∧ w'.cell? ⟨w.heap.size, 1, none⟩ = some (.slice aH s.head.length cH) ∧ w'.cell? ⟨T, 0, none⟩ = some (.string ⟨#[]⟩) ∧ w'.cell? ⟨T, 1, none⟩ = some (.int .i64 0) ∧ w'.cell? ⟨T, 2, none⟩ = some (.int .i64 0) ∧ w'.cell? ⟨T, 3, none⟩ = some (.string ⟨#[]⟩) ∧ w'.frozen? ⟨T, 0, none⟩ = false ∧ w'.frozen? ⟨T, 1, none⟩ = false ∧ w'.frozen? ⟨T, 2, none⟩ = false ∧ w'.frozen? ⟨T, 3, none⟩ = false ∧ Hid (CutAt s s.ord ⟨key, seq, 0, ⟨#[]⟩⟩ 0 a0 ∧ Below w1.heap.size w1 w' ∧ w'.heap[T]? = some (.cells #[.string ⟨#[]⟩, .int .i64 0, .int .i64 0, .string ⟨#[]⟩] 50))) := by
      intro X T hX hT
      have hA := ahead_any s es (.slice aN s.nodes.length cN) (.slice aH s.head.length cH) ⟨key, seq, 0, ⟨#[]⟩⟩ s.ord X (HV.out.up (up_trans HB1.out.1 hX)) HG.out.head HG.out.link HG.out.srt (fun k hk => (HG.out.mem k).1 hk)
      refine hA.mono ?_
      rintro e w' ⟨L, rfl, HL, U⟩
      obtain ⟨a0, a1, a2, a3, a4, a5, a6, a7, rfl⟩ := eight L HL.out.1
      have k0 := blk_up HB1.out.2.1 (up_trans hX U.out)
      have k1 := blk_up hT U.out
      have hlt := blk_lt k0
      exact ⟨a0, a1, a2, a3, a4, a5, a6, a7, rfl, by omega, by omega, blk_cell k0 0 _ rfl, blk_cell k0 1 _ rfl, blk_cell k1 0 _ rfl, blk_cell k1 1 _ rfl, blk_cell k1 2 _ rfl, blk_cell k1 3 _ rfl, blk_frozen k1 0, blk_frozen k1 1, blk_frozen k1 2, blk_frozen k1 3, HL.out.2 0 (by omega), up_trans hX U.out, k1⟩
    have HC2 : Hid (∀ (a0 a1 a2 a3 a4 a5 a6 a7 : Nat) (X : World) (T : Nat), CutAt s s.ord ⟨key, seq, 0, ⟨#[]⟩⟩ 0 a0 → Below w1.heap.size w1 X → X.heap[T]? = some (.cells #[.string ⟨#[]⟩, .int .i64 0, .int .i64 0, .string ⟨#[]⟩] 50) → Calls Tryz.prog 32 #[.agg #[.slice aN s.nodes.length cN, .slice aH s.head.length cH], .agg #[.int .i64 (a0 : Int), .int .i64 (a1 : Int), .int .i64 (a2 : Int), .int .i64 (a3 : Int), .int .i64 (a4 : Int), .int .i64 (a5 : Int), .int .i64 (a6 : Int), .int .i64 (a7 : Int)]] X fun e w' => ∃ (y : En) (b : Bool), e = .returned (.tuple #[.agg #[.string y.key, .int .i64 y.seq, .int .i64 y.kind, .string y.val], .bool b]) ∧ w'.cell? ⟨w.heap.size, 0, none⟩ = some (.slice aN s.nodes.length cN) ∧ w'.cell? ⟨w.heap.size, 1, none⟩ = some (.slice aH s.head.length cH) ∧ w'.cell? ⟨T, 0, none⟩ = some (.string ⟨#[]⟩) ∧ w'.cell? ⟨T, 1, none⟩ = some (.int .i64 0) ∧ w'.cell? ⟨T, 2, none⟩ = some (.int .i64 0) ∧ w'.cell? ⟨T, 3, none⟩ = some (.string ⟨#[]⟩) ∧ w'.frozen? ⟨T, 0, none⟩ = false ∧ w'.frozen? ⟨T, 1, none⟩ = false ∧ w'.frozen? ⟨T, 2, none⟩ = false ∧ w'.frozen? ⟨T, 3, none⟩ = false ∧ Hid (BehR s a0 y b ∧ CutAt s s.ord ⟨key, seq, 0, ⟨#[]⟩⟩ 0 a0 ∧ Below w1.heap.size w1 w' ∧ w'.heap[T]? = some (.cells #[.string ⟨#[]⟩, .int .i64 0, .int .i64 0, .string ⟨#[]⟩] 50))) := by
      intro a0 a1 a2 a3 a4 a5 a6 a7 X T hc hX hT
      have hA := behind_anyP s es (.slice aN s.nodes.length cN) (.slice aH s.head.length cH) ⟨key, seq, 0, ⟨#[]⟩⟩ a0 a1 a2 a3 a4 a5 a6 a7 X (HV.out.up (up_trans HB1.out.1 hX)) HG.out hc
      refine hA.mono ?_
      rintro e w' ⟨y, b, rfl, HR, U⟩
      have k0 := blk_up HB1.out.2.1 (up_trans hX U.out)
      have k1 := blk_up hT U.out
      exact ⟨y, b, rfl, blk_cell k0 0 _ rfl, blk_cell k0 1 _ rfl, blk_cell k1 0 _ rfl, blk_cell k1 1 _ rfl, blk_cell k1 2 _ rfl, blk_cell k1 3 _ rfl, blk_frozen k1 0, blk_frozen k1 1, blk_frozen k1 2, blk_frozen k1 3, HR.out, hc, up_trans hX U.out, k1⟩
    have U0 : Hid (Below w1.heap.size w1 w1.drew) := up_dr (Below.refl _ _)
    have U1 : Hid (Below w1.heap.size w1 (w1.alloc (.cells #[.string ⟨#[]⟩, .int .i64 0, .int .i64 0, .string ⟨#[]⟩] 50)).drew) := up_dr (up_al (Below.refl _ _) _)
    have T0 : Hid (w1.drew.heap[w.heap.size + 1]? = some (.cells #[.string ⟨#[]⟩, .int .i64 0, .int .i64 0, .string ⟨#[]⟩] 50)) := blk_up HB1.out.2.2 U0.out
    have T1 : Hid ((w1.alloc (.cells #[.string ⟨#[]⟩, .int .i64 0, .int .i64 0, .string ⟨#[]⟩] 50)).drew.heap[w1.heap.size]? = some (.cells #[.string ⟨#[]⟩, .int .i64 0, .int .i64 0, .string ⟨#[]⟩] 50)) := blk_up (blk_new w1 _) (up_dr (Below.refl _ _))
    have z1 : ¬ w1.heap.size = w.heap.size := by have := blk_lt HB1.out.2.1; omega
    have z2 : ¬ w.heap.size = w1.heap.size := fun q => z1 q.symm
    have HSZ : Hid (w.heap.size + 1 < w1.heap.size) := blk_lt HB1.out.2.2
    go_upto_region 4 with fail
    have d0 := fun o => ((up_dr (up_al (Below.refl w1.heap.size w1) o)).cell (World.block_lt_of_cell? _ _ q0)).trans q0
    have d1 := fun o => ((up_dr (up_al (Below.refl w1.heap.size w1) o)).cell (World.block_lt_of_cell? _ _ q1)).trans q1
    go_cut [10, 11] from 18 to 50 (fun s10 s11 wy => ∃ (T : Nat) (y : En) (b : Bool) (a0 : Nat), s10 = .pointer (some ⟨T, 0, none⟩) ∧ s11 = .bool b ∧ Hid (wy.heap[T]? = some (.cells #[.string y.key, .int .i64 y.seq, .int .i64 y.kind, .string y.val] 50) ∧ BehR s a0 y b ∧ CutAt s s.ord ⟨key, seq, 0, ⟨#[]⟩⟩ 0 a0 ∧ GtB w wy (.slice aN s.nodes.length cN) (.slice aH s.head.length cH)))
    case first =>
      go_region_held3 (fun w' => w'.cell? ⟨w.heap.size, 0, none⟩ = some (.slice aN s.nodes.length cN) ∧ w'.cell? ⟨w.heap.size, 1, none⟩ = some (.slice aH s.head.length cH)) (first | with_reducible exact ⟨y0, y1⟩ | with_reducible exact ⟨q0, q1⟩ | with_reducible exact ⟨d0 _, d1 _⟩ | with_reducible exact ⟨cell_al _ y0, cell_al _ y1⟩ | with_reducible exact ⟨cell_al _ q0, cell_al _ q1⟩ | (simp [go_sem, y0, y1, n1, n2]; done) | (simp [go_sem, y0, y1, z1, z2]; done) | (simp [go_sem, y0, y1]; done) | (simp [go_sem, q0, q1]; done)) (first
        | (go_at_call 31; with_reducible refine (HC1.out _ _ U0.out T0.out).mono ?_; rintro e w2 ⟨a0, a1, a2, a3, a4, a5, a6, a7, rfl, n1, n2, y0, y1, t0, t1, t2, t3, f0, f1, f2, f3, hs⟩)
        | (go_at_call 31; with_reducible refine (HC1.out _ _ U1.out T1.out).mono ?_; rintro e w2 ⟨a0, a1, a2, a3, a4, a5, a6, a7, rfl, n1, n2, y0, y1, t0, t1, t2, t3, f0, f1, f2, f3, hs⟩)
        | (go_at_call 32; with_reducible refine (HC2.out a0 a1 a2 a3 a4 a5 a6 a7 _ _ hs.out.1 hs.out.2.1 hs.out.2.2).mono ?_; rintro e w3 ⟨y, b, rfl, y0, y1, t0, t1, t2, t3, f0, f1, f2, f3, hr⟩)
        | (go_at_call 32; with_reducible refine (HC2.out a0 a1 a2 a3 a4 a5 a6 a7 (w2.alloc (.cells #[.string ⟨#[]⟩, .int .i64 0, .int .i64 0, .string ⟨#[]⟩] 50)) w2.heap.size hs.out.1 (up_al hs.out.2.1 _) (blk_new _ _)).mono ?_; rintro e w3 ⟨y, b, rfl, y0, y1, t0, t1, t2, t3, f0, f1, f2, f3, hr⟩))
      · have HBw3 : Hid (GtB w w3 (.slice aN s.nodes.length cN) (.slice aH s.head.length cH)) := HB1.out.up hr.out.2.2.1
        have HS2 : Hid (w.heap.size + 1 < w2.heap.size) := Nat.lt_of_lt_of_le HSZ.out hs.out.2.1.size
        have kk := hr.out.2.2.2
        clear y0 y1 t0 t1 t2 t3 f0 f1 f2 f3 q0 q1 n1 n2 HC1 HC2 d0 d1
        go_wp2_with fail
        go_meet
        case rel =>
          refine ⟨_, y, b, a0, rfl, rfl, ?_⟩
          unfold Hid
          exact ⟨blk_new _ _, hr.out.1, hr.out.2.1, HBw3.out.up (up_alloc _ _)⟩
      · have HBw3 : Hid (GtB w w3 (.slice aN s.nodes.length cN) (.slice aH s.head.length cH)) := HB1.out.up hr.out.2.2.1
        have HS2 : Hid (w.heap.size + 1 < w2.heap.size) := Nat.lt_of_lt_of_le HSZ.out hs.out.2.1.size
        have kk := hr.out.2.2.2
        clear y0 y1 t0 t1 t2 t3 f0 f1 f2 f3 q0 q1 n1 n2 HC1 HC2 d0 d1
        go_wp2_with fail
        go_meet
        case rel =>
          refine ⟨_, y, b, a0, rfl, rfl, ?_⟩
          unfold Hid
          exact ⟨set4_blk kk _ _ _ _, hr.out.1, hr.out.2.1, HBw3.out.set (set4_grown _ _ _ _ _ _) HS2.out⟩
      · have HBw3 : Hid (GtB w w3 (.slice aN s.nodes.length cN) (.slice aH s.head.length cH)) := HB1.out.up hr.out.2.2.1
        have HS2 : Hid (w.heap.size + 1 < w2.heap.size) := Nat.lt_of_lt_of_le HSZ.out hs.out.2.1.size
        have kk := hr.out.2.2.2
        clear y0 y1 t0 t1 t2 t3 f0 f1 f2 f3 q0 q1 n1 n2 HC1 HC2 d0 d1
        go_wp2_with fail
        go_meet
        case rel =>
          refine ⟨_, y, b, a0, rfl, rfl, ?_⟩
          unfold Hid
          exact ⟨set4_blk kk _ _ _ _, hr.out.1, hr.out.2.1, HBw3.out.set (set4_grown _ _ _ _ _ _) HSZ.out⟩
    case rest =>
    obtain ⟨T, y, b, a0, rfl, rfl, HT⟩ := hcut
    obtain ⟨c0, c1, c2, c3, f0⟩ := HCELLS.out _ HT.out.2.2.2
    have t0 : wc.cell? ⟨T, 0, none⟩ = some (.string y.key) := blk_cell HT.out.1 0 _ rfl
    have t1 : wc.cell? ⟨T, 1, none⟩ = some (.int .i64 y.seq) := blk_cell HT.out.1 1 _ rfl
    have t2 : wc.cell? ⟨T, 2, none⟩ = some (.int .i64 y.kind) := blk_cell HT.out.1 2 _ rfl
    have t3 : wc.cell? ⟨T, 3, none⟩ = some (.string y.val) := blk_cell HT.out.1 3 _ rfl
    clear d0 d1 q0 q1 HC1 HC2
    cases b
    · have HE : Hid (getV s key seq = (default, false, 0)) := by
        rcases HT.out.2.1 with ⟨_, _, hz⟩ | ⟨k, hk, _⟩
        · have := get_none HG.out HT.out.2.2.1 hz
          simp only at this
          unfold Hid getV
          rw [HCK.out, this]
          rfl
        · cases hk
      go_wp2_with fail
      obtain ⟨hz1, hz2⟩ := HEND.out _ default false 0 HT.out.2.2.2 HE.out
      exact bodyPost_ret (results_ent3 (q := 6) (r := 7) (u := 8) rfl _ _ rfl hz1) rfl hz2
    · have HFF : Hid (firstS s.all key seq = if y.key.toList = key.toList then some y else none) := by
        rcases HT.out.2.1 with ⟨h0, _⟩ | ⟨k, _, hy, hz, _⟩
        · cases h0
        · have := get_some HG.out HT.out.2.2.1 k hz
          simp only at this
          unfold Hid
          rw [this, hy]
      by_cases hq : y.key.toList = key.toList
      · have HE : Hid (getV s key seq = (y, true, 0)) := by
          unfold Hid getV
          rw [HCK.out, HFF.out, if_pos hq]
          rfl
        have hq2 : (y.key.toList != key.toList) = false := by simp [hq]
        have hq3 : (y.key.toList == key.toList) = true := by simp [hq]
        clear hq
        go_wp2_with fail
        obtain ⟨hz1, hz2⟩ := HEND.out _ y true 0 HT.out.2.2.2 HE.out
        exact bodyPost_ret (results_ent3 (q := 6) (r := 7) (u := 8) rfl _ _ rfl hz1) rfl hz2
      · have HE : Hid (getV s key seq = (default, false, 0)) := by
          unfold Hid getV
          rw [HCK.out, HFF.out, if_neg hq]
          rfl
        have hq2 : (y.key.toList != key.toList) = true := by simp [hq]
        have hq3 : (y.key.toList == key.toList) = false := by simp [hq]
        clear hq
        go_wp2_with fail
        obtain ⟨hz1, hz2⟩ := HEND.out _ default false 0 HT.out.2.2.2 HE.out
        exact bodyPost_ret (results_ent3 (q := 6) (r := 7) (u := 8) rfl _ _ rfl hz1) rfl hz2
  · have e9 : errC s = 9 := by unfold errC; rw [if_neg hG]
    have HE : Hid (getV s key seq = (default, false, 9)) := by
      unfold Hid getV
      rw [if_pos (by simpa using hG)]
    rw [e9]
    obtain ⟨d0, d1, d2, d3, f0⟩ := HCELLS.out _ HB1.out
    go_wp2_with fail
    obtain ⟨hz1, hz2⟩ := HEND.out w1 default false 9 HB1.out HE.out
    exact bodyPost_ret (results_ent3 (q := 6) (r := 7) (u := 8) rfl _ _ rfl hz1) rfl hz2
end Go.Proofs.YthiegmhplnbdlaaGreat

namespace Go.Proofs.YthiegmhplnbdlaaGreat
open Go.RowKit
set_option linter.unusedVariables false
set_option linter.unusedSimpArgs false
def Coll (w : World) (base T : Nat) (v : Value) (l : List En) : Prop := w.heap[T]? = some (.cells #[v] 96) ∧ OwnR w base 50 4 v (l.map enRow)
theorem Coll.up {w w' : World} {base T : Nat} {v : Value} {l : List En} (h : Coll w base T v l) (hb : Below w.heap.size w w') : Coll w' base T v l := ⟨blk_up h.1 hb, h.2.up hb⟩
theorem enRow_oneP (y : En) : ∀ cs ∈ [enRow y], ∀ u ∈ cs, u.oneCell' = true := by
  intro cs hcs u hu
  simp at hcs
  subst hcs
  simp [enRow] at hu
  rcases hu with rfl | rfl | rfl | rfl <;> rfl
set_option maxHeartbeats 4000000 in
set_option maxRecDepth 100000 in
theorem take_any (l : List En) (y : En) (a : Option Addr) (c T base : Nat) (w : World) (h : Coll w base T (.slice a l.length c) l) (hl : l.length ≤ 4096) (hbase : base ≤ w.heap.size) :
    Calls Tryz.prog 36 #[.pointer (some ⟨T, 0, none⟩), enV y] w fun e w' => ∃ a' c', e = .returned (.tuple #[]) ∧ Hid (Coll w' base T (.slice a' (l.length + 1) c') (l ++ [y]) ∧ (∀ B, B ≤ base → B ≤ T → B ≤ w.heap.size → Below B w w') ∧ ∀ (k : Nat) (cs : Array Value) (t : TypeId), k ≠ T → 50 ≠ t → w.heap[k]? = some (.cells cs t) → w'.heap[k]? = some (.cells cs t)) := by
  unfold enV
  obtain ⟨wq, hwq⟩ : ∃ wq, wq = w.alloc (.cells #[.string y.key, .int .i64 y.seq, .int .i64 y.kind, .string y.val] 50) := ⟨_, rfl⟩
  have HWQ : Hid (w.alloc (.cells #[.string y.key, .int .i64 y.seq, .int .i64 y.kind, .string y.val] 50) = wq) := hwq.symm
  have uq : Hid (Below w.heap.size w wq) := by rw [hwq]; exact up_alloc _ _
  have HBQ : Hid (wq.heap[w.heap.size]? = some (.cells #[.string y.key, .int .i64 y.seq, .int .i64 y.kind, .string y.val] 50)) := by rw [hwq]; exact blk_new _ _
  have OQ : Hid (Coll wq base T (.slice a l.length c) l) := h.up uq.out
  have HH : Hid (Coll w base T (.slice a l.length c) l) := h
  clear hwq h
  go_enter Tryz.func36, Tryz.ntmps36
  go_upto_region 1 with fail
  rw [HWQ.out]
  clear HWQ
  have r0 : wq.cell? ⟨w.heap.size, 0, none⟩ = some (.string y.key) := blk_cell HBQ.out 0 _ rfl
  have r1 : wq.cell? ⟨w.heap.size, 1, none⟩ = some (.int .i64 y.seq) := blk_cell HBQ.out 1 _ rfl
  have r2 : wq.cell? ⟨w.heap.size, 2, none⟩ = some (.int .i64 y.kind) := blk_cell HBQ.out 2 _ rfl
  have r3 : wq.cell? ⟨w.heap.size, 3, none⟩ = some (.string y.val) := blk_cell HBQ.out 3 _ rfl
  have m0 := fun o => ((up_dr (up_al (Below.refl wq.heap.size wq) o)).cell (World.block_lt_of_cell? _ _ r0)).trans r0
  have m1 := fun o => ((up_dr (up_al (Below.refl wq.heap.size wq) o)).cell (World.block_lt_of_cell? _ _ r1)).trans r1
  have m2 := fun o => ((up_dr (up_al (Below.refl wq.heap.size wq) o)).cell (World.block_lt_of_cell? _ _ r2)).trans r2
  have m3 := fun o => ((up_dr (up_al (Below.refl wq.heap.size wq) o)).cell (World.block_lt_of_cell? _ _ r3)).trans r3
  have tq : wq.cell? ⟨T, 0, none⟩ = some (.slice a l.length c) := blk_cell OQ.out.1 0 _ rfl
  have mt := fun o => ((up_dr (up_al (Below.refl wq.heap.size wq) o)).cell (World.block_lt_of_cell? _ _ tq)).trans tq
  have nT : ¬ T = w.heap.size := by have := blk_lt HH.out.1; omega
  have nT2 : ¬ w.heap.size = T := fun q => nT q.symm
  have HA1 : Hid (∀ (o : Obj), OwnR (wq.alloc o).drew base 50 4 (.slice a l.length c) (l.map enRow)) := fun o => (OQ.out.up (up_dr (up_al (Below.refl _ _) o))).2
  have HA2 : Hid (Rws 4 (wq.alloc (.cells #[.string y.key, .int .i64 y.seq, .int .i64 y.kind, .string y.val] 50)).drew (.slice (some ⟨wq.heap.size, 0, none⟩) 1 1) [enRow y]) := (Rws.made (sz := 4) wq 50 [enRow y] (by simp [enRow]) (by simp [maxLen])).up (up_dr (Below.refl _ _))
  have HA4 : Hid (((l.map enRow).length + [enRow y].length + ((l.map enRow).length + [enRow y].length) / 4 + 192) * 48 ≤ 281474976710656 ∧ (l.map enRow).length + [enRow y].length ≤ maxLen) := by
    unfold Hid maxLen; simp only [List.length_map, List.length_cons, List.length_nil]; omega
  have HA5 : Hid (∀ o, base ≤ (wq.alloc o).drew.heap.size) := fun o => Nat.le_trans hbase (Nat.le_trans uq.out.size (up_dr (up_al (Below.refl wq.heap.size wq) o)).size)
  have HG : Hid (∀ (w6 : World) (o : Obj) (v6 : Value), (wq.alloc o).drew.grownBy w6 (Value.ownBlock (.slice a l.length c)) → OwnR w6 base 50 4 v6 (l.map enRow ++ [enRow y]) → ∃ a6 c6, v6 = .slice a6 (l.length + 1) c6 ∧ w6.cell? ⟨T, 0, none⟩ = some (.slice a l.length c) ∧ w6.frozen? ⟨T, 0, none⟩ = false ∧ w6.cell? ⟨w.heap.size, 0, none⟩ = some (.string y.key) ∧ w6.cell? ⟨w.heap.size, 1, none⟩ = some (.int .i64 y.seq) ∧ w6.cell? ⟨w.heap.size, 2, none⟩ = some (.int .i64 y.kind) ∧ w6.cell? ⟨w.heap.size, 3, none⟩ = some (.string y.val) ∧ Hid (Coll (w6.setCell ⟨T, 0, none⟩ (.slice a6 (l.length + 1) c6)) base T (.slice a6 (l.length + 1) c6) (l ++ [y]) ∧ (∀ B, B ≤ base → B ≤ T → B ≤ w.heap.size → Below B w (w6.setCell ⟨T, 0, none⟩ (.slice a6 (l.length + 1) c6))) ∧ ∀ (k : Nat) (cs : Array Value) (t : TypeId), k ≠ T → 50 ≠ t → w.heap[k]? = some (.cells cs t) → (w6.setCell ⟨T, 0, none⟩ (.slice a6 (l.length + 1) c6)).heap[k]? = some (.cells cs t))) := by
    intro w6 o v6 hg ho6
    obtain ⟨a6, c6, e6, _, _⟩ := (Rws.own ho6).len
    simp only [List.length_append, List.length_map, List.length_cons, List.length_nil] at e6
    subst e6
    have uo := up_dr (up_al (Below.refl wq.heap.size wq) o)
    have O3 := OQ.out.up uo
    have nTb : some T ≠ Value.ownBlock (.slice a l.length c) := by
      rcases own_blk_ne O3.2.2 O3.1 (by decide) with q | q
      · rw [q]; simp
      · exact fun e => q e.symm
    have b1 := blk_grown O3.1 hg nTb
    have hne : some w.heap.size ≠ Value.ownBlock (.slice a l.length c) := by
      intro q
      have := (HH.out.2.2.lt _ q.symm).2
      omega
    have k0 := blk_grown (blk_up HBQ.out uo) hg hne
    have g2 := grown_set w6 ⟨T, 0, none⟩ (.slice a6 (l.length + 1) c6)
    refine ⟨a6, c6, rfl, blk_cell b1 0 _ rfl, blk_frozen b1 0, blk_cell k0 0 _ rfl, blk_cell k0 1 _ rfl, blk_cell k0 2 _ rfl, blk_cell k0 3 _ rfl, ⟨?_, ?_⟩, ?_, ?_⟩
    · have := blk_set b1 0 (.slice a6 (l.length + 1) c6)
      simp only [List.setIfInBounds_toArray, List.set_cons_zero] at this
      exact this
    · rw [List.map_append]
      exact ho6.far g2 (own_blk_ne ho6.2 b1 (by decide))
    · intro B h1 h2 h3
      have u0 : Below B w (wq.alloc o).drew := ⟨(up_trans uq.out uo).os, (up_trans uq.out uo).tape, (up_trans uq.out uo).output, (up_trans uq.out uo).size, fun k hk => (up_trans uq.out uo).block k (by omega)⟩
      refine (u0.grown hg (Nat.le_trans h3 u0.size) (fun k hk => ?_)).grown g2 (Nat.le_trans (Nat.le_trans h3 u0.size) hg.size) (fun k hk => ?_)
      · have := (O3.2.2.lt k hk).1
        omega
      · injection hk with hk
        rw [← hk]
        exact h2
    · intro k cs t hkT ht hk
      have k1 := blk_up (blk_up hk uq.out) uo
      have n2 : some k ≠ Value.ownBlock (.slice a l.length c) := by
        rcases own_blk_ne O3.2.2 k1 ht with q | q
        · rw [q]; simp
        · exact fun e => q e.symm
      exact (Below.heap_setCell _ _ _ k (by simp only; exact hkT)).trans (blk_grown k1 hg n2)
  refine wp_region_held_drew (S := (fun w' => w'.cell? ⟨w.heap.size, 0, none⟩ = some (.string y.key) ∧ w'.cell? ⟨w.heap.size, 1, none⟩ = some (.int .i64 y.seq) ∧ w'.cell? ⟨w.heap.size, 2, none⟩ = some (.int .i64 y.kind) ∧ w'.cell? ⟨w.heap.size, 3, none⟩ = some (.string y.val))) (by kernel_rfl) (by (try dsimp only); first | with_reducible exact ⟨t0, t1, t2, t3⟩ | with_reducible exact ⟨m0 _, m1 _, m2 _, m3 _⟩ | with_reducible exact ⟨r0, r1, r2, r3⟩ | (simp [go_sem, r0, r1, r2, r3]; done) | (simp [go_sem, t0, t1, t2, t3, nT, nT2]; done)) (fun hHeld => ?_)
  refine wpAnyH_take (i := 0) (v := ?_) rfl (by kernel_rfl) (by kernel_rfl) (by kernel_rfl) (fun _ _ _ h => h) (Or.inl ⟨by kernel_rfl, ?_⟩) (by assumption) ?_
  rotate_left
  focus (intro w hSw; (try dsimp only at hSw); go_simp; (try with_reducible rfl); done)
  try simp only [Act.put, List.getElem_toArray, List.getElem_cons_zero, List.getElem_cons_succ, List.setIfInBounds_toArray, List.set_cons_zero, List.set_cons_succ]
  refine wpAnyH_take (i := 1) (v := ?_) rfl (by kernel_rfl) (by kernel_rfl) (by kernel_rfl) (fun _ _ _ h => h) (Or.inl ⟨by kernel_rfl, ?_⟩) (by assumption) ?_
  rotate_left
  focus (intro w hSw; (try dsimp only at hSw); go_simp; (try with_reducible rfl); done)
  try simp only [Act.put, List.getElem_toArray, List.getElem_cons_zero, List.getElem_cons_succ, List.setIfInBounds_toArray, List.set_cons_zero, List.set_cons_succ]
  refine wpAnyH_take (i := 2) (v := ?_) rfl (by kernel_rfl) (by kernel_rfl) (by kernel_rfl) (fun _ _ _ h => h) (Or.inl ⟨by kernel_rfl, ?_⟩) (by assumption) ?_
  rotate_left
  focus (intro w hSw; (try dsimp only at hSw); go_simp; (try with_reducible rfl); done)
  try simp only [Act.put, List.getElem_toArray, List.getElem_cons_zero, List.getElem_cons_succ, List.setIfInBounds_toArray, List.set_cons_zero, List.set_cons_succ]
  refine wpAnyH_take (i := 3) (v := ?_) rfl (by kernel_rfl) (by kernel_rfl) (by kernel_rfl) (fun _ _ _ h => h) (Or.inl ⟨by kernel_rfl, ?_⟩) (by assumption) ?_
  rotate_left
  focus (intro w hSw; (try dsimp only at hSw); go_simp; (try with_reducible rfl); done)
  try simp only [Act.put, List.getElem_toArray, List.getElem_cons_zero, List.getElem_cons_succ, List.setIfInBounds_toArray, List.set_cons_zero, List.set_cons_succ]
  refine wpAnyH_take (i := 5) (v := ?_) rfl (by kernel_rfl) (by kernel_rfl) (by kernel_rfl) (fun _ _ _ h => h) (Or.inl ⟨by kernel_rfl, ?_⟩) (by assumption) ?_
  rotate_left
  focus (intro w hSw; (try dsimp only at hSw); go_simp; (try with_reducible rfl); done)
  try simp only [Act.put, List.getElem_toArray, List.getElem_cons_zero, List.getElem_cons_succ, List.setIfInBounds_toArray, List.set_cons_zero, List.set_cons_succ]
  refine wpAnyH_ready (rs := [4, 6]) (by kernel_rfl) (by simp) ?_
  refine AllReadyH.cons rfl (fun K hK => ?_) (AllReadyH.cons rfl (fun K hK => ?_) AllReadyH.nil)
  · skip
    go_simp
    refine hK.out _ _ (by (try dsimp only); first | with_reducible exact ⟨t0, t1, t2, t3⟩ | with_reducible exact ⟨m0 _, m1 _, m2 _, m3 _⟩ | with_reducible exact ⟨r0, r1, r2, r3⟩ | (simp [go_sem, r0, r1, r2, r3]; done) | (simp [go_sem, t0, t1, t2, t3, nT, nT2]; done)) (fun hHeld => ?_)
    clear hK K
    try simp only [Act.put, List.getElem_toArray, List.getElem_cons_zero, List.getElem_cons_succ, List.setIfInBounds_toArray, List.set_cons_zero, List.set_cons_succ]
    refine wpAnyH_ready (rs := [6]) (by kernel_rfl) (by simp) ?_
    refine AllReadyH.cons rfl (fun K hK => ?_) AllReadyH.nil
    go_simp
    refine hK.out _ _ (by (try dsimp only); first | with_reducible exact ⟨t0, t1, t2, t3⟩ | with_reducible exact ⟨m0 _, m1 _, m2 _, m3 _⟩ | with_reducible exact ⟨r0, r1, r2, r3⟩ | (simp [go_sem, r0, r1, r2, r3]; done) | (simp [go_sem, t0, t1, t2, t3, nT, nT2]; done)) (fun hHeld => ?_)
    clear hK K
    try simp only [Act.put, List.getElem_toArray, List.getElem_cons_zero, List.getElem_cons_succ, List.setIfInBounds_toArray, List.set_cons_zero, List.set_cons_succ]
    refine wpAnyH_ready (rs := [7]) (by kernel_rfl) (by simp) ?_
    refine AllReadyH.cons rfl (fun K hK => ?_) AllReadyH.nil
    refine step_append_rows _ rfl (.tmp 8) (.tmp 10) 42 50 _ 4 48 rfl Tryz.underlying42 Tryz.info50 rfl (by decide) base (.slice a l.length c) (l.map enRow) rfl (HA1.out _) _ [enRow y] rfl HA2.out (enRow_oneP y) HA4.out.1 HA4.out.2 (HA5.out _) ?_
    intro v6 w6 o6 g6
    obtain ⟨a6, c6, rfl, tt, tf, t0, t1, t2, t3, hz⟩ := HG.out _ _ _ g6 o6
    refine hK.out _ _ (by (try dsimp only); first | with_reducible exact ⟨t0, t1, t2, t3⟩ | with_reducible exact ⟨m0 _, m1 _, m2 _, m3 _⟩ | with_reducible exact ⟨r0, r1, r2, r3⟩ | (simp [go_sem, r0, r1, r2, r3]; done) | (simp [go_sem, t0, t1, t2, t3, nT, nT2]; done)) (fun hHeld => ?_)
    clear hK K
    try simp only [Act.put, List.getElem_toArray, List.getElem_cons_zero, List.getElem_cons_succ, List.setIfInBounds_toArray, List.set_cons_zero, List.set_cons_succ]
    refine wpAnyH_take (i := 8) (v := ?_) rfl (by kernel_rfl) (by kernel_rfl) (by kernel_rfl) (fun _ _ _ h => h) (Or.inl ⟨by kernel_rfl, ?_⟩) (by assumption) ?_
    rotate_left
    focus (intro w hSw; (try dsimp only at hSw); go_simp; (try with_reducible rfl); done)
    try simp only [Act.put, List.getElem_toArray, List.getElem_cons_zero, List.getElem_cons_succ, List.setIfInBounds_toArray, List.set_cons_zero, List.set_cons_succ]
    refine wpAnyH_take (i := 9) (v := ?_) rfl (by kernel_rfl) (by kernel_rfl) (by kernel_rfl) (fun _ _ _ h => h) (Or.inl ⟨by kernel_rfl, ?_⟩) (by assumption) ?_
    rotate_left
    focus (intro w hSw; (try dsimp only at hSw); go_simp; (try with_reducible rfl); done)
    try simp only [Act.put, List.getElem_toArray, List.getElem_cons_zero, List.getElem_cons_succ, List.setIfInBounds_toArray, List.set_cons_zero, List.set_cons_succ]
    refine wpAnyH_ready (rs := [10]) (by kernel_rfl) (by simp) ?_
    refine AllReadyH.cons rfl (fun K hK => ?_) AllReadyH.nil
    go_simp
    refine hK.out _ _ (by (try dsimp only); first | with_reducible exact ⟨t0, t1, t2, t3⟩ | with_reducible exact ⟨m0 _, m1 _, m2 _, m3 _⟩ | with_reducible exact ⟨r0, r1, r2, r3⟩ | (simp [go_sem, r0, r1, r2, r3]; done) | (simp [go_sem, t0, t1, t2, t3, nT, nT2]; done)) (fun hHeld => ?_)
    clear hK K
    try simp only [Act.put, List.getElem_toArray, List.getElem_cons_zero, List.getElem_cons_succ, List.setIfInBounds_toArray, List.set_cons_zero, List.set_cons_succ]
    refine wpAnyH_done (by kernel_rfl) ?_ _
    clear t0 t1 t2 t3 tt tf g6 o6 tq r0 r1 r2 r3 m0 m1 m2 m3 mt
    go_end0
    exact ⟨a6, c6, rfl, hz⟩
  · skip
    go_simp
    refine hK.out _ _ (by (try dsimp only); first | with_reducible exact ⟨t0, t1, t2, t3⟩ | with_reducible exact ⟨m0 _, m1 _, m2 _, m3 _⟩ | with_reducible exact ⟨r0, r1, r2, r3⟩ | (simp [go_sem, r0, r1, r2, r3]; done) | (simp [go_sem, t0, t1, t2, t3, nT, nT2]; done)) (fun hHeld => ?_)
    clear hK K
    try simp only [Act.put, List.getElem_toArray, List.getElem_cons_zero, List.getElem_cons_succ, List.setIfInBounds_toArray, List.set_cons_zero, List.set_cons_succ]
    refine wpAnyH_ready (rs := [4]) (by kernel_rfl) (by simp) ?_
    refine AllReadyH.cons rfl (fun K hK => ?_) AllReadyH.nil
    go_simp
    refine hK.out _ _ (by (try dsimp only); first | with_reducible exact ⟨t0, t1, t2, t3⟩ | with_reducible exact ⟨m0 _, m1 _, m2 _, m3 _⟩ | with_reducible exact ⟨r0, r1, r2, r3⟩ | (simp [go_sem, r0, r1, r2, r3]; done) | (simp [go_sem, t0, t1, t2, t3, nT, nT2]; done)) (fun hHeld => ?_)
    clear hK K
    try simp only [Act.put, List.getElem_toArray, List.getElem_cons_zero, List.getElem_cons_succ, List.setIfInBounds_toArray, List.set_cons_zero, List.set_cons_succ]
    refine wpAnyH_ready (rs := [7]) (by kernel_rfl) (by simp) ?_
    refine AllReadyH.cons rfl (fun K hK => ?_) AllReadyH.nil
    refine step_append_rows _ rfl (.tmp 8) (.tmp 10) 42 50 _ 4 48 rfl Tryz.underlying42 Tryz.info50 rfl (by decide) base (.slice a l.length c) (l.map enRow) rfl (HA1.out _) _ [enRow y] rfl HA2.out (enRow_oneP y) HA4.out.1 HA4.out.2 (HA5.out _) ?_
    intro v6 w6 o6 g6
    obtain ⟨a6, c6, rfl, tt, tf, t0, t1, t2, t3, hz⟩ := HG.out _ _ _ g6 o6
    refine hK.out _ _ (by (try dsimp only); first | with_reducible exact ⟨t0, t1, t2, t3⟩ | with_reducible exact ⟨m0 _, m1 _, m2 _, m3 _⟩ | with_reducible exact ⟨r0, r1, r2, r3⟩ | (simp [go_sem, r0, r1, r2, r3]; done) | (simp [go_sem, t0, t1, t2, t3, nT, nT2]; done)) (fun hHeld => ?_)
    clear hK K
    try simp only [Act.put, List.getElem_toArray, List.getElem_cons_zero, List.getElem_cons_succ, List.setIfInBounds_toArray, List.set_cons_zero, List.set_cons_succ]
    refine wpAnyH_take (i := 8) (v := ?_) rfl (by kernel_rfl) (by kernel_rfl) (by kernel_rfl) (fun _ _ _ h => h) (Or.inl ⟨by kernel_rfl, ?_⟩) (by assumption) ?_
    rotate_left
    focus (intro w hSw; (try dsimp only at hSw); go_simp; (try with_reducible rfl); done)
    try simp only [Act.put, List.getElem_toArray, List.getElem_cons_zero, List.getElem_cons_succ, List.setIfInBounds_toArray, List.set_cons_zero, List.set_cons_succ]
    refine wpAnyH_take (i := 9) (v := ?_) rfl (by kernel_rfl) (by kernel_rfl) (by kernel_rfl) (fun _ _ _ h => h) (Or.inl ⟨by kernel_rfl, ?_⟩) (by assumption) ?_
    rotate_left
    focus (intro w hSw; (try dsimp only at hSw); go_simp; (try with_reducible rfl); done)
    try simp only [Act.put, List.getElem_toArray, List.getElem_cons_zero, List.getElem_cons_succ, List.setIfInBounds_toArray, List.set_cons_zero, List.set_cons_succ]
    refine wpAnyH_ready (rs := [10]) (by kernel_rfl) (by simp) ?_
    refine AllReadyH.cons rfl (fun K hK => ?_) AllReadyH.nil
    go_simp
    refine hK.out _ _ (by (try dsimp only); first | with_reducible exact ⟨t0, t1, t2, t3⟩ | with_reducible exact ⟨m0 _, m1 _, m2 _, m3 _⟩ | with_reducible exact ⟨r0, r1, r2, r3⟩ | (simp [go_sem, r0, r1, r2, r3]; done) | (simp [go_sem, t0, t1, t2, t3, nT, nT2]; done)) (fun hHeld => ?_)
    clear hK K
    try simp only [Act.put, List.getElem_toArray, List.getElem_cons_zero, List.getElem_cons_succ, List.setIfInBounds_toArray, List.set_cons_zero, List.set_cons_succ]
    refine wpAnyH_done (by kernel_rfl) ?_ _
    clear t0 t1 t2 t3 tt tf g6 o6 tq r0 r1 r2 r3 m0 m1 m2 m3 mt
    go_end0
    exact ⟨a6, c6, rfl, hz⟩
end Go.Proofs.YthiegmhplnbdlaaGreat
