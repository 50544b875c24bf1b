/- Texts of layers 1 to 13, in this order. -/
import Derived.Test.YthiegmhplnbdlaaGreatG44
import Derived.Test.YthiegmhplnbdlaaGreatG10
import Derived.Deep.DeepAppendWide
import Derived.Test.YthiegmhplnbdlaaGreatG12

namespace Go.Proofs.YthiegmhplnbdlaaGreat
open Go.RowKit SumPlain
set_option linter.unusedVariables false
theorem octs_dropP {w : World} {b off c n : Nat} {l : List Int} (h : Octs w (.slice (some ⟨b, off, none⟩) l.length c) l) (hn : n ≤ l.length) (hc : l.length ≤ c) : Octs w (.slice (some ⟨b, off + n, none⟩) (l.length - n) (c - n)) (l.drop n) := h.back rfl n hn hc
set_option maxHeartbeats 2000000 in
set_option maxRecDepth 100000 in
theorem replay_any (b : List Int) (v : Value) (w : World) (hv : Octs w v b) (hl : b.length ≤ 140737488355328) :
    Calls Tryz.prog 7 #[v] w fun e w' => ReplEnd 4 28 b w e w' := by
  obtain ⟨a, cap, rfl, hcap, _⟩ := hv.len
  have HV : Hid (Octs w (.slice a b.length cap) b) := hv
  clear hv
  go_enter Tryz.func7, Tryz.ntmps7
  go_wp2_with fail
  go_loopw [4, 5] (fun o p wr => ∃ (ys : List (Value × Int × List Chg)) (pre : List (Int × List Chg × Nat)) (nx : Option Int) (off f : Nat) (ao : Option Addr) (co : Nat), o = .slice ao ys.length co ∧ p = .int .i64 (off : Int) ∧ Hid (RInv 4 28 b w wr ys pre nx off f ao co)) (fun _ p _ => b.length - (intOf p).toNat)
  case atStart => exact ⟨[], [], none, 0, b.length + 1, none, 0, rfl, rfl, ⟨ReplAt.start 4 b, .inl ⟨rfl, rfl⟩, rfl, BatsO.nil _ _ _, Below.refl _ _⟩⟩
  case round =>
    obtain ⟨ys, pre, nx, off, f, ao, co, rfl, rfl, RI⟩ := hrel
    have hoff : off ≤ b.length := RI.out.at_.2.2.1
    have hv2 : Octs wr (.slice a b.length cap) b := HV.out.up RI.out.up
    cases hf : firstP 4 (b.drop off) with
    | none =>
      have HE : Hid (∀ w', Below wr.heap.size wr w' → ReplEnd 4 28 b w (.returned (.tuple #[.slice ao ys.length co, .int .i64 (off : Int)])) w') := fun w' hb => RI.out.ends hf hb
      have HC : Hid (∀ v', Octs wr v' (b.drop off) → Calls Tryz.prog 25 #[v'] wr fun e w' => ∃ sb ab nb cb n y, e = .returned (.tuple #[.agg #[.int .i64 sb, .slice ab nb cb], .int .i64 n, .int .i64 y]) ∧ Hid (y ≠ 0) ∧ Hid (Below wr.heap.size wr w')) := fun v' h => first_none _ _ _ h hf
      rcases hv2.form with ⟨rfl, rfl, rfl⟩ | ⟨x, rfl, rfl⟩ | ⟨bb, o, rfl, hne, hc, hm⟩
      · simp at hoff
        subst hoff
        have HC2 : Hid (Calls Tryz.prog 25 #[.slice none 0 0] wr fun e w' => ∃ sb ab nb cb n y, e = .returned (.tuple #[.agg #[.int .i64 sb, .slice ab nb cb], .int .i64 n, .int .i64 y]) ∧ Hid (y ≠ 0) ∧ Hid (Below wr.heap.size wr w')) := HC.out _ hv2
        clear HC hf hv2 RI
        go_wp2_with fail
        refine HC2.out.mono ?_
        rintro e w1 ⟨sb, ab, nb, cb, n, y, rfl, hy, B1⟩
        have y1 : (y == 0) = false := by have := hy.out; simp [this]
        have y2 : (y != 0) = true := by have := hy.out; simp [this]
        go_wp2_with fail
        go_quiet (fail)
        go_wp2
        go_ret2
        exact HE.out _ (up_trans (up_al B1.out _) (up_drewN _ _))
      · simp at hoff
        subst hoff
        by_cases hc0 : cap = 0
        · subst hc0
          have HC2 : Hid (Calls Tryz.prog 25 #[.slice (some x) 0 0] wr fun e w' => ∃ sb ab nb cb n y, e = .returned (.tuple #[.agg #[.int .i64 sb, .slice ab nb cb], .int .i64 n, .int .i64 y]) ∧ Hid (y ≠ 0) ∧ Hid (Below wr.heap.size wr w')) := HC.out _ (by exact hv2)
          clear HC hf hv2 RI
          go_wp2_with fail
          refine HC2.out.mono ?_
          rintro e w1 ⟨sb, ab, nb, cb, n, y, rfl, hy, B1⟩
          have y1 : (y == 0) = false := by have := hy.out; simp [this]
          have y2 : (y != 0) = true := by have := hy.out; simp [this]
          go_wp2_with fail
          go_quiet (fail)
          go_wp2
          go_ret2
          exact HE.out _ (up_trans (up_al B1.out _) (up_drewN _ _))
        · have hv3 : Octs wr (.slice (some (x.add 0)) 0 (cap - 0)) [] := ⟨by simp, .inl ⟨rfl, _, _, rfl, fun e => by cases e⟩⟩
          have HC2 : Hid (Calls Tryz.prog 25 #[.slice (some x) 0 cap] wr fun e w' => ∃ sb ab nb cb n y, e = .returned (.tuple #[.agg #[.int .i64 sb, .slice ab nb cb], .int .i64 n, .int .i64 y]) ∧ Hid (y ≠ 0) ∧ Hid (Below wr.heap.size wr w')) := HC.out _ (by exact hv2)
          clear HC hf hv2 RI
          go_wp2_with fail
          refine HC2.out.mono ?_
          rintro e w1 ⟨sb, ab, nb, cb, n, y, rfl, hy, B1⟩
          have y1 : (y == 0) = false := by have := hy.out; simp [this]
          have y2 : (y != 0) = true := by have := hy.out; simp [this]
          go_wp2_with fail
          go_quiet (fail)
          go_wp2
          go_ret2
          exact HE.out _ (up_trans (up_al B1.out _) (up_drewN _ _))
      · unfold maxLen at hm
        have hoff' : (off : Int) ≤ (b.length : Int) := by omega
        by_cases hcn : cap = off
        · obtain rfl : off = b.length := by omega
          obtain rfl : cap = b.length := hcn
          rw [List.drop_length] at HC
          have hv3 : Octs wr (.slice (some ⟨bb, o, none⟩) 0 0) [] := ⟨by simp, .inl ⟨rfl, _, _, rfl, fun e => by cases e⟩⟩
          have HC2 : Hid (Calls Tryz.prog 25 #[.slice (some ⟨bb, o, none⟩) 0 0] wr fun e w' => ∃ sb ab nb cb n y, e = .returned (.tuple #[.agg #[.int .i64 sb, .slice ab nb cb], .int .i64 n, .int .i64 y]) ∧ Hid (y ≠ 0) ∧ Hid (Below wr.heap.size wr w')) := HC.out _ hv3
          clear HC hf hv2 RI
          go_wp2_with fail
          refine HC2.out.mono ?_
          rintro e w1 ⟨sb, ab, nb, cb, n, y, rfl, hy, B1⟩
          have y1 : (y == 0) = false := by have := hy.out; simp [this]
          have y2 : (y != 0) = true := by have := hy.out; simp [this]
          go_wp2_with fail
          go_quiet (fail)
          go_wp2
          go_ret2
          exact HE.out _ (up_trans (up_al B1.out _) (up_drewN _ _))
        · have hv3 : Octs wr (.slice (some ⟨bb, o + off, none⟩) (b.length - off) (cap - off)) (b.drop off) := octs_dropP hv2 hoff hc
          have HC2 : Hid (Calls Tryz.prog 25 #[.slice (some ⟨bb, o + off, none⟩) (b.length - off) (cap - off)] wr fun e w' => ∃ sb ab nb cb n y, e = .returned (.tuple #[.agg #[.int .i64 sb, .slice ab nb cb], .int .i64 n, .int .i64 y]) ∧ Hid (y ≠ 0) ∧ Hid (Below wr.heap.size wr w')) := HC.out _ hv3
          clear HC hf hv2 RI
          go_wp2_with fail
          refine HC2.out.mono ?_
          rintro e w1 ⟨sb, ab, nb, cb, n, y, rfl, hy, B1⟩
          have y1 : (y == 0) = false := by have := hy.out; simp [this]
          have y2 : (y != 0) = true := by have := hy.out; simp [this]
          go_wp2_with fail
          go_quiet (fail)
          go_wp2
          go_ret2
          exact HE.out _ (up_trans (up_al B1.out _) (up_drewN _ _))
    | some v =>
      obtain ⟨s, cs, n⟩ := v
      obtain ⟨h6, hnb, _, _, _, _, hck⟩ := firstP_some (fun y hy => HV.out.1 y (List.mem_of_mem_drop hy)) hf
      rw [List.length_drop] at hnb
      obtain ⟨hs1, hs2, _⟩ := checkOf_ok hck
      rcases hv2.form with ⟨rfl, rfl, rfl⟩ | ⟨x, rfl, rfl⟩ | ⟨bb, o, rfl, hne, hc, hm⟩
      · simp at hnb; omega
      · simp at hnb; omega
      · unfold maxLen at hm
        have hoff' : (off : Int) ≤ (b.length : Int) := by omega
        have hcap' : ¬ cap = off := by omega
        have hv3 : Octs wr (.slice (some ⟨bb, o + off, none⟩) (b.length - off) (cap - off)) (b.drop off) := octs_dropP hv2 hoff hc
        have HC2 : Hid (Calls Tryz.prog 25 #[.slice (some ⟨bb, o + off, none⟩) (b.length - off) (cap - off)] wr fun e w' => ∃ a' c', e = .returned (.tuple #[.agg #[.int .i64 s, .slice a' cs.length c'], .int .i64 (n : Int), .int .i64 0]) ∧ Hid (OwnC w' wr.heap.size (.slice a' cs.length c') cs) ∧ Hid (Below wr.heap.size wr w')) := first_some _ _ _ hv3 s cs n hf
        have HS : Hid (firstP 4 (b.drop off) = some (s, cs, n)) := hf
        have hon : (off : Int) + (n : Int) ≤ 140737488355328 := by omega
        have hlen := RI.out.nxt.len
        clear hf hv2 hv3
        have HGO : Hid (∀ (hS : nx = none ∨ nx = some s) (wb w3 : World) (av v3 : Value), Below wr.heap.size wr wb → OwnC wb w.heap.size av cs → OwnR w3 w.heap.size 28 2 v3 (ys.map brw ++ [[.int .i64 s, av]]) → wb.grownBy w3 (Value.slice ao ys.length co).ownBlock → ∃ a3 c3, v3 = .slice a3 (ys.length + 1) c3 ∧ Hid (RInv 4 28 b w w3 (ys ++ [(av, s, cs)]) (pre ++ [(s, cs, n)]) (some (s + (cs.length : Int))) (off + n) (f - 1) a3 c3)) := fun hS wb w3 av v3 h1 h2 h3 h4 => RI.out.goes HV.out.1 HS.out hS (by decide) h1 h2 h3 h4
        have HST : Hid (∀ w', ¬ (nx = none ∨ nx = some s) → Below wr.heap.size wr w' → ReplEnd 4 28 b w (.returned (.tuple #[.slice ao ys.length co, .int .i64 (off : Int)])) w') := fun w' hS hb => RI.out.stops HS.out hS hb
        have HSZ : Hid (w.heap.size ≤ wr.heap.size) := RI.out.up.size
        have HM1 : Hid ((((ys.map brw).length + 1) + ((ys.map brw).length + 1) / 4 + 192) * 32 ≤ 281474976710656) := by unfold Hid; rw [List.length_map]; omega
        have HM2 : Hid ((ys.map brw).length + 1 ≤ maxLen) := by unfold Hid maxLen; rw [List.length_map]; omega
        have HOW : Hid (∀ wb, Below wr.heap.size wr wb → OwnR wb w.heap.size 28 2 (.slice ao ys.length co) (ys.map brw)) := fun wb hb => RI.out.own.1.up hb
        have H1 : Hid (∀ (v : Value), v.oneCell' = true → ∀ r ∈ [[Value.int .i64 s, v]], ∀ u ∈ r, u.oneCell' = true) := by
          intro v hv r hr u hu
          simp at hr
          subst hr
          simp at hu
          rcases hu with rfl | rfl
          · rfl
          · exact hv
        rcases RI.out.nxt with ⟨hy0, hn0⟩ | ⟨ys0, y, hy0, hn0, hy1, hy2, hy3⟩
        · subst hy0 hn0
          go_wp2_with fail
          refine HC2.out.mono ?_
          rintro e w1 ⟨a', c', rfl, O1, B1⟩
          have HRW : Hid (∀ d, Rws 2 (((w1.alloc (.cells #[.int .i64 s, .slice a' cs.length c'] 28)).drewN d).alloc (.cells #[.int .i64 s, .slice a' cs.length c'] 28)) (.slice (some ⟨w1.heap.size + 1, 0, none⟩) 1 1) [[.int .i64 s, .slice a' cs.length c']]) := by
            intro d
            have h := Rws.made (sz := 2) ((w1.alloc (.cells #[.int .i64 s, .slice a' cs.length c'] 28)).drewN d) 28 [[.int .i64 s, .slice a' cs.length c']] (by simp) (by simp [maxLen])
            have e : ((w1.alloc (.cells #[.int .i64 s, .slice a' cs.length c'] 28)).drewN d).heap.size = w1.heap.size + 1 := by simp
            rw [e] at h
            exact h
          have HUB : Hid (∀ d, Below wr.heap.size wr (((w1.alloc (.cells #[.int .i64 s, .slice a' cs.length c'] 28)).drewN d).alloc (.cells #[.int .i64 s, .slice a' cs.length c'] 28))) := fun d => up_al (up_trans (up_al B1.out _) (up_drewN _ d)) _
          have HOC : Hid (∀ d, OwnC (((w1.alloc (.cells #[.int .i64 s, .slice a' cs.length c'] 28)).drewN d).alloc (.cells #[.int .i64 s, .slice a' cs.length c'] 28)) w.heap.size (.slice a' cs.length c') cs) := fun d => ((O1.out.mono HSZ.out).up (up_alloc _ _)).up (up_trans (up_drewN _ d) (up_alloc _ _))
          clear HC2 O1 B1 RI HST
          go_wp2_with fail
          go_quiet (fail)
          go_wp2_with (at_builtin; refine wpList_append_rows _ rfl _ _ 33 28 _ 2 32 rfl Tryz.underlying33 Tryz.info28 rfl (by decide) w.heap.size _ [] rfl (HOW.out _ (HUB.out _)) _ _ rfl (HRW.out _) (H1.out _ rfl) ?c1 ?c2 ?c3 ?_)
          case c1 => exact HM1.out
          case c2 => exact HM2.out
          case c3 => exact Nat.le_trans HSZ.out (HUB.out _).size
          intro v3 w3 o3 g3
          obtain ⟨a3, c3, rfl, R3⟩ := HGO.out (by simp) _ _ _ _ (HUB.out _) (HOC.out _) o3 g3
          clear o3 g3 HGO HRW HUB HOC HOW
          go_wp2
          exact ⟨⟨_, _, _, off + n, f - 1, a3, c3, rfl, by go_num, R3⟩, by simp [intOf]; omega⟩
        · obtain ⟨m, hm1⟩ : ∃ m, ys.length = m + 1 := ⟨ys0.length, by rw [hy0]; simp⟩
          have hR := Rws.own RI.out.own.1
          obtain ⟨g, og, cg, e, _, _, hcell⟩ := hR.at m (by rw [List.length_map]; omega)
          simp only [Value.slice.injEq] at e
          obtain ⟨rfl, _, rfl⟩ := e
          have hgd : (ys.map brw).getD m [] = brw y := by
            have e0 : m = ys0.length := by rw [hy0] at hm1; simp at hm1; omega
            rw [hy0, e0]
            simp [List.getD]
          rw [hgd] at hcell
          obtain ⟨ya, yc, hyv⟩ := (RI.out.own.2 y (by rw [hy0]; simp)).shape
          obtain ⟨yv, ysq, ycs⟩ := y
          simp only at hyv hy1 hy2 hn0
          subst hyv
          have r0 : wr.cell? ⟨g, og + m * 2, none⟩ = some (.int .i64 ysq) := hcell 0 _ rfl
          have r1 : wr.cell? ⟨g, og + m * 2 + 1, none⟩ = some (.slice ya ycs.length yc) := hcell 1 _ rfl
          have hcc : m + 1 ≤ co ∧ co ≤ 9223372036854775807 := by
            obtain ⟨x, z, e, h1, h2⟩ := hR.len
            rw [List.length_map] at e h1
            simp only [Value.slice.injEq] at e
            obtain ⟨_, _, rfl⟩ := e
            unfold maxLen at h2
            omega
          obtain ⟨hcc1, hcc2⟩ := hcc
          have HN : Hid (nx = some (ysq + (ycs.length : Int))) := hn0
          have hq1 : 0 ≤ ysq := by omega
          have hq2 : ysq ≤ 1099511627776 := by omega
          have hq3 : ycs.length ≤ 64 := by omega
          have hmb : m ≤ 1099511627776 := by omega
          have hmi : (m : Int) ≤ 1099511627776 := by omega
          have hm0 : (0 : Int) ≤ (m : Int) := by omega
          have hmw : IntKind.i64.wrap (m : Int) = (m : Int) := wrap64_id _ (by omega) (by omega)
          have hmw2 : IntKind.i64.wrap ((m : Int) + 1 - 1) = (m : Int) := by rw [Int.add_sub_cancel]; exact hmw
          have hml : (m : Int) < (m : Int) + 1 := by omega
          rw [hm1]
          rw [hm1] at HGO HST HOW
          clear hR hcell hgd hy0 hy3 hn0 RI hlen
          go_wp2_with fail
          refine HC2.out.mono ?_
          rintro e w1 ⟨a', c', rfl, O1, B1⟩
          have HBH : Hid (Calls Tryz.prog 26 #[.agg #[.int .i64 ysq, .slice ya ycs.length yc]] (w1.alloc (.cells #[.int .i64 s, .slice a' cs.length c'] 28)).drew fun e w' => e = .returned (.int .i64 (ysq + (ycs.length : Int))) ∧ w'.cell? ⟨w1.heap.size, 0, none⟩ = some (.int .i64 s) ∧ w'.cell? ⟨w1.heap.size, 1, none⟩ = some (.slice a' cs.length c') ∧ w'.cell? ⟨g, og + m * 2, none⟩ = some (.int .i64 ysq) ∧ w'.cell? ⟨g, og + m * 2 + 1, none⟩ = some (.slice ya ycs.length yc) ∧ Hid (Below wr.heap.size wr w') ∧ Hid (OwnC w' w.heap.size (.slice a' cs.length c') cs)) := by
            refine (behind_any ysq ya ycs.length yc _ hq1 hq2 hq3).mono ?_
            rintro e w' ⟨rfl, rfl⟩
            have u := up_al (up_dr (up_al B1.out (.cells #[.int .i64 s, .slice a' cs.length c'] 28))) (.cells #[.int .i64 ysq, .slice ya ycs.length yc] 28)
            have bx := blk_up (blk_up (blk_new w1 (.cells #[.int .i64 s, .slice a' cs.length c'] 28)) (up_dr (Below.refl _ _))) (up_alloc _ (.cells #[.int .i64 ysq, .slice ya ycs.length yc] 28))
            exact ⟨rfl, blk_cell bx 0 _ rfl, blk_cell bx 1 _ rfl, (u.cell (World.block_lt_of_cell? wr _ r0)).trans r0, (u.cell (World.block_lt_of_cell? wr _ r1)).trans r1, u, ((O1.out.mono HSZ.out).up (up_alloc _ _)).up (up_trans (up_dr (Below.refl _ _)) (up_alloc _ _))⟩
          have u0 : Below wr.heap.size wr (w1.alloc (.cells #[.int .i64 s, .slice a' cs.length c'] 28)) := up_al B1.out _
          have x0 : (w1.alloc (.cells #[.int .i64 s, .slice a' cs.length c'] 28)).cell? ⟨w1.heap.size, 0, none⟩ = some (.int .i64 s) := blk_cell (blk_new _ _) 0 _ rfl
          have x1 : (w1.alloc (.cells #[.int .i64 s, .slice a' cs.length c'] 28)).cell? ⟨w1.heap.size, 1, none⟩ = some (.slice a' cs.length c') := blk_cell (blk_new _ _) 1 _ rfl
          have x2 : (w1.alloc (.cells #[.int .i64 s, .slice a' cs.length c'] 28)).cell? ⟨g, og + m * 2, none⟩ = some (.int .i64 ysq) := (u0.cell (World.block_lt_of_cell? wr _ r0)).trans r0
          have x3 : (w1.alloc (.cells #[.int .i64 s, .slice a' cs.length c'] 28)).cell? ⟨g, og + m * 2 + 1, none⟩ = some (.slice ya ycs.length yc) := (u0.cell (World.block_lt_of_cell? wr _ r1)).trans r1
          clear r0 r1 HC2 O1 B1 u0
          go_wp2_with fail
          generalize w1.alloc (.cells #[.int .i64 s, .slice a' cs.length c'] 28) = wq at *
          go_region_held3 (fun w' => w'.cell? ⟨w1.heap.size, 0, none⟩ = some (.int .i64 s) ∧ w'.cell? ⟨w1.heap.size, 1, none⟩ = some (.slice a' cs.length c') ∧ w'.cell? ⟨g, og + m * 2, none⟩ = some (.int .i64 ysq) ∧ w'.cell? ⟨g, og + m * 2 + 1, none⟩ = some (.slice ya ycs.length yc)) (first | with_reducible exact ⟨y0, y1, y2, y3⟩ | with_reducible exact ⟨x0, x1, x2, x3⟩ | (simp [go_sem, x0, x1, x2, x3]; done)) (first
            | (go_at_call 26; with_reducible refine HBH.out.mono ?_; rintro e w2 ⟨rfl, y0, y1, y2, y3, U2, O2⟩))
          all_goals
            by_cases hse : s = ysq + (ycs.length : Int)
            · have hs1 : (s == ysq + (ycs.length : Int)) = true := by simp [hse]
              have hs2 : (s != ysq + (ycs.length : Int)) = false := by simp [hse]
              have HNS : Hid (nx = some s) := by unfold Hid; rw [hse]; exact HN.out
              have HRW : Hid (Rws 2 (w2.alloc (.cells #[.int .i64 s, .slice a' cs.length c'] 28)) (.slice (some ⟨w2.heap.size, 0, none⟩) 1 1) [[.int .i64 s, .slice a' cs.length c']]) := Rws.made (sz := 2) w2 28 [[.int .i64 s, .slice a' cs.length c']] (by simp) (by simp [maxLen])
              have HUB : Hid (Below wr.heap.size wr (w2.alloc (.cells #[.int .i64 s, .slice a' cs.length c'] 28))) := up_al U2.out _
              have HOC : Hid (OwnC (w2.alloc (.cells #[.int .i64 s, .slice a' cs.length c'] 28)) w.heap.size (.slice a' cs.length c') cs) := O2.out.up (up_alloc _ _)
              clear hse y2 y3 x0 x1 x2 x3 HST HBH U2 O2
              go_wp2_with (at_builtin; refine wpList_append_rows _ rfl _ _ 33 28 _ 2 32 rfl Tryz.underlying33 Tryz.info28 rfl (by decide) w.heap.size _ (ys.map brw) rfl (HOW.out _ HUB.out) _ _ rfl HRW.out (H1.out _ rfl) ?c1 ?c2 ?c3 ?_)
              case c1 => exact HM1.out
              case c2 => exact HM2.out
              case c3 => exact Nat.le_trans HSZ.out HUB.out.size
              intro v3 w3 o3 g3
              obtain ⟨a3, c3, rfl, R3⟩ := HGO.out (.inr HNS.out) _ _ _ _ HUB.out HOC.out o3 g3
              clear o3 g3 HGO HRW HUB HOC HOW
              go_wp2
              exact ⟨⟨_, _, _, off + n, f - 1, a3, c3, by simp [hm1], by go_num, R3⟩, by simp [intOf]; omega⟩
            · have hs1 : (s == ysq + (ycs.length : Int)) = false := by simp [hse]
              have hs2 : (s != ysq + (ycs.length : Int)) = true := by simp [hse]
              have HF := HST.out w2 (by rw [HN.out]; simp; exact fun e => hse e.symm) U2.out
              have HF2 : Hid (ReplEnd 4 28 b w (.returned (.tuple #[.slice (some ⟨g, og, none⟩) (m + 1) co, .int .i64 (off : Int)])) w2) := HF
              clear HF HST HGO HOW HBH
              go_wp2
              go_ret2
              exact HF2.out
end Go.Proofs.YthiegmhplnbdlaaGreat

namespace Go.Proofs.YthiegmhplnbdlaaGreat
open Go.RowKit SumPlain
set_option linter.unusedVariables false
theorem wpList_append_octs_wide (w : World) {ops : Array Oper} {rest : List Oper} {o : Oper} {a : Act} {Q : Exit → Act → World → Prop} (hgd : o.guard = none) (s x : Operand)
    (ho : o.op = .call { callee := .builtin .append, args := #[s, x], argTypes := #[25, 25] }) (base : Nat) (v : Value) (l0 : List Int) (hs : a.eval s = v) (hown : OwnB w base v l0)
    (vx : Value) (lx : List Int) (hx : a.eval x = vx) (hO : Octs w vx lx) (hsz : l0.length + lx.length ≤ 211106232532992) (hbase : base ≤ w.heap.size)
    (h : ∀ v' w', OwnB w' base v' (l0 ++ lx) → w.grownBy w' v.ownBlock → wpList Tryz.prog ops Q rest (a.put o.dst v') w') : wpList Tryz.prog ops Q (o :: rest) a w := by
  obtain ⟨i0, hi, hz0, hz1, hz2⟩ := info_some Tryz.info5
  obtain ⟨hoct, hO⟩ := hO
  have fin : ∀ v' w', w'.ownsRow base 5 1 v' (l0.length + lx.length) (l0.map (Value.int .u8) ++ lx.map (Value.int .u8)) → w.grownBy w' v.ownBlock → wpList Tryz.prog ops Q rest (a.put o.dst v') w' := by
    intro v' w' h1 h2
    refine h v' w' ?_ h2
    unfold OwnB
    rw [List.length_append, List.map_append]
    exact h1
  rcases hO with ⟨rfl, ax, cap, rfl, hn⟩ | ⟨hne, b, off, cap, rfl, hcap, hm, hc⟩
  · cases ax with
    | none =>
      obtain rfl := hn rfl
      refine wpList_append_own_none hgd s x 25 ho base 5 i0 1 Tryz.underlying25 hi v l0.length (l0.map (Value.int .u8)) hs hown hx ?_
      refine fin v w ?_ (grown_refl w _)
      unfold OwnB at hown
      simpa using hown
    | some ad =>
      refine wpList_append_own_wide w hgd s x 25 ho base 5 i0 (.int .u8 0) 1 1 Tryz.underlying25 hi hz0 hz1 hz2 rfl (by decide) v l0.length _ hs hown ad 0 cap [] hx rfl (fun j u hj => by simp at hj) (fun u hu => by cases hu) ?_ ?_ hbase ?_
      · simp only [List.length_nil] at hsz; unfold maxLen; omega
      · simp only [List.length_nil] at hsz; omega
      · intro v' w' h1 h2 _
        exact fin v' w' (by simpa using h1) h2
  · refine wpList_append_own_wide w hgd s x 25 ho base 5 i0 (.int .u8 0) 1 1 Tryz.underlying25 hi hz0 hz1 hz2 rfl (by decide) v l0.length _ hs hown ⟨b, off, none⟩ lx.length cap (lx.map (Value.int .u8)) hx (by simp) ?_ (one_u8 lx) ?_ ?_ hbase ?_
    · intro j u hj
      rw [List.getElem?_map] at hj
      cases hx : lx[j]? with
      | none => rw [hx] at hj; cases hj
      | some y =>
        rw [hx] at hj
        simp at hj
        subst hj
        rw [Addr.add_lit]
        exact hc j y hx
    · unfold maxLen; omega
    · omega
    · intro v' w' h1 h2 _
      exact fin v' w' h1 h2
end Go.Proofs.YthiegmhplnbdlaaGreat

namespace Go.Proofs.YthiegmhplnbdlaaGreat
open Go.RowKit SumPlain
set_option linter.unusedVariables false
theorem frame_bound (s : Int) (cs : List Chg) (h : checkOf s cs = 0) : (frameOf 1 (encOf s cs)).length ≤ 70000 := by
  have := encOf_len s cs h
  have h1 := frame_len 1 (encOf s cs)
  have := octets_len ((encOf s cs).length : Int) (by omega) (by omega)
  omega
theorem frame_octs (s : Int) (cs : List Chg) (h : checkOf s cs = 0) : ∀ x ∈ frameOf 1 (encOf s cs), 0 ≤ x ∧ x ≤ 255 := frame_octet 1 _ (by decide) (encOf_len s cs h) (encOf_octet s cs h)
set_option maxHeartbeats 1000000 in
theorem add_good (s : Int) (cs : List Chg) (a : Option Addr) (c : Nat) (l : List Int) (al : Option Addr) (cl : Nat) (w : World) (hv : ChgsR w (.slice a cs.length c) cs) (hl : Octs w (.slice al l.length cl) l) (hb : l.length ≤ 140737488355328) (h : checkOf s cs = 0) :
    Calls Tryz.prog 6 #[.slice al l.length cl, .agg #[.int .i64 s, .slice a cs.length c]] w fun e w' => ∃ a' n' c', e = .returned (.tuple #[.slice a' n' c', .int .i64 0]) ∧ Hid (OwnB w' w.heap.size (.slice a' n' c') (l ++ frameOf 1 (encOf s cs))) ∧ Hid (Below w.heap.size w w') := by
  have HV : Hid (∀ o, ChgsR (w.alloc o) (.slice a cs.length c) cs) := fun o => hv.up (up_alloc w o)
  have HL : Hid (Octs w (.slice al l.length cl) l) := hl
  have HX : Hid (∀ x ∈ encOf s cs, 0 ≤ x ∧ x ≤ 255) := encOf_octet s cs h
  have HN : Hid ((encOf s cs).length ≤ 65536) := encOf_len s cs h
  have HF : Hid ((frameOf 1 (encOf s cs)).length ≤ 70000 ∧ l.length ≤ 140737488355328) := ⟨frame_bound s cs h, hb⟩
  have HFX : Hid (∀ x ∈ frameOf 1 (encOf s cs), 0 ≤ x ∧ x ≤ 255) := frame_octs s cs h
  clear hv hl hb
  go_enter Tryz.func6, Tryz.ntmps6
  go_wp2_with fail
  refine (encode_goodW s cs a c _ (HV.out _) h).mono ?_
  rintro e w1 ⟨a1, n1, c1, rfl, O1, B1⟩
  have U1 : Hid (Below w.heap.size w w1) := up_trans (up_alloc w _) B1.out
  have P1 : Hid (Octs w1 (.slice a1 n1 c1) (encOf s cs)) := Octs.own O1.out HX.out
  have hn1 : n1 = (encOf s cs).length := by
    obtain ⟨x, y, e, _⟩ := P1.out.len
    simp at e
    exact e.2.1
  subst hn1
  clear O1 B1 h HV
  go_wp2_with fail
  refine (fput_good 1 a1 c1 (encOf s cs) w1 P1.out (by decide) (by decide) HN.out).mono ?_
  rintro e w2 ⟨v2, rfl, o2, b2⟩
  obtain ⟨a2, n2, c2, rfl, N2⟩ := own_shape o2
  have U2 : Hid (Below w.heap.size w w2) := up_trans U1.out b2
  have P2 : Hid (Octs w2 (.slice a2 n2 c2) (frameOf 1 (encOf s cs))) := Octs.own o2 HFX.out
  have L2 : Hid (Octs w2 (.slice al l.length cl) l) := HL.out.up U2.out
  clear o2 b2 P1 U1 HN HX
  go_wp2_with (at_builtin; refine wpList_append_octs _ rfl _ _ rfl w2.heap.size _ [] rfl (OwnB.nil _ _) _ l rfl L2.out ?c1 (Nat.le_refl _) ?_)
  case c1 => have := HF.out; simp; omega
  intro v3 w3 o3 g3
  replace o3 : OwnB w3 w2.heap.size v3 l := o3
  obtain ⟨a3, n3, c3, rfl, N3⟩ := own_shape o3
  have B3 : Hid (Below w2.heap.size w2 w3) := below_grown g3 (Nat.le_refl _) (fun k hk => by cases hk)
  have O3 : Hid (OwnB w3 w2.heap.size (.slice a3 n3 c3) l) := o3
  have P3 : Hid (Octs w3 (.slice a2 n2 c2) (frameOf 1 (encOf s cs))) := P2.out.up B3.out
  have S3 : Hid (w2.heap.size ≤ w3.heap.size) := B3.out.size
  have U3 : Hid (Below w.heap.size w w3) := up_trans U2.out B3.out
  have S2 : Hid (w.heap.size ≤ w2.heap.size) := U2.out.size
  clear o3 g3 P2 L2
  go_wp2_with (at_builtin; refine wpList_append_octs_wide _ rfl _ _ rfl w2.heap.size _ l rfl O3.out _ _ rfl P3.out ?c2 S3.out ?_)
  case c2 => have := HF.out; omega
  intro v4 w4 o4 g4
  obtain ⟨a4, n4, c4, rfl, N4⟩ := own_shape o4
  have O4 : Hid (OwnB w4 w.heap.size (.slice a4 n4 c4) (l ++ frameOf 1 (encOf s cs))) := OwnB.mono o4 S2.out
  have U4 : Hid (Below w.heap.size w w4) := U3.out.grown g4 (by have := S2.out; have := S3.out; omega) (fun j hj => by have := (O3.out.lt j hj).1; have := S2.out; omega)
  clear o4 g4
  go_wp2
  go_ret2
  exact ⟨_, _, _, rfl, O4, U4⟩
end Go.Proofs.YthiegmhplnbdlaaGreat
