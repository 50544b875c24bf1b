/- Replay of layer 6, walked. -/
import Derived.Test.YtgphkddcfcmaiaaWRep
namespace Go.Proofs.Ytgphkddcfcmaiaa
open Go.RowKit SumPlain
set_option linter.unusedVariables false

theorem octs_dropP {w : World} {b off c n : Nat} {l : List Int} (h : Octs w (.slice (some ⟨b, off, none⟩) l.length c) l) (hn : n ≤ l.length) (hc : l.length ≤ c) : Octs w (.slice (some ⟨b, off + n, none⟩) (l.length - n) (c - n)) (l.drop n) := h.back rfl n hn hc

set_option maxHeartbeats 2000000 in
set_option maxRecDepth 100000 in
theorem replay_any (b : List Int) (v : Value) (w : World) (hv : Octs w v b) (hl : b.length ≤ 140737488355328) :
    Calls Try.prog 26 #[v] w fun e w' => ReplEnd 4 26 b w e w' := by
  obtain ⟨a, cap, rfl, hcap, _⟩ := hv.len
  have HV : Hid (Octs w (.slice a b.length cap) b) := hv
  clear hv
  go_enter Try.func26, Try.ntmps26
  go_wp2_with fail
  go_loopw [4, 5] (fun o p wr => ∃ (ys : List (Value × Int × List Chg)) (pre : List (Int × List Chg × Nat)) (nx : Option Int) (off f : Nat) (ao : Option Addr) (co : Nat), o = .slice ao ys.length co ∧ p = .int .i64 (off : Int) ∧ Hid (RInv 4 26 b w wr ys pre nx off f ao co)) (fun _ p _ => b.length - (intOf p).toNat)
  case atStart => exact ⟨[], [], none, 0, b.length + 1, none, 0, rfl, rfl, ⟨ReplAt.start 4 b, .inl ⟨rfl, rfl⟩, rfl, BatsO.nil _ _ _, Below.refl _ _⟩⟩
  case round =>
    obtain ⟨ys, pre, nx, off, f, ao, co, rfl, rfl, RI⟩ := hrel
    have hoff : off ≤ b.length := RI.out.at_.2.2.1
    have hv2 : Octs wr (.slice a b.length cap) b := HV.out.up RI.out.up
    cases hf : firstP 4 (b.drop off) with
    | none =>
      have HE : Hid (∀ w', Below wr.heap.size wr w' → ReplEnd 4 26 b w (.returned (.tuple #[.slice ao ys.length co, .int .i64 (off : Int)])) w') := fun w' hb => RI.out.ends hf hb
      have HC : Hid (∀ v', Octs wr v' (b.drop off) → Calls Try.prog 44 #[v'] wr fun e w' => ∃ sb ab nb cb n y, e = .returned (.tuple #[.agg #[.int .i64 sb, .slice ab nb cb], .int .i64 n, .int .i64 y]) ∧ Hid (y ≠ 0) ∧ Hid (Below wr.heap.size wr w')) := fun v' h => first_none _ _ _ h hf
      rcases hv2.form with ⟨rfl, rfl, rfl⟩ | ⟨x, rfl, rfl⟩ | ⟨bb, o, rfl, hne, hc, hm⟩
      · simp at hoff
        subst hoff
        have HC2 : Hid (Calls Try.prog 44 #[.slice none 0 0] wr fun e w' => ∃ sb ab nb cb n y, e = .returned (.tuple #[.agg #[.int .i64 sb, .slice ab nb cb], .int .i64 n, .int .i64 y]) ∧ Hid (y ≠ 0) ∧ Hid (Below wr.heap.size wr w')) := HC.out _ hv2
        clear HC hf hv2 RI
        go_wp2_with fail
        refine HC2.out.mono ?_
        rintro e w1 ⟨sb, ab, nb, cb, n, y, rfl, hy, B1⟩
        have y1 : (y == 0) = false := by have := hy.out; simp [this]
        have y2 : (y != 0) = true := by have := hy.out; simp [this]
        go_wp2_with fail
        go_quiet (fail)
        go_wp2
        go_ret2
        exact HE.out _ (up_trans (up_al B1.out _) (up_drewN _ _))
      · simp at hoff
        subst hoff
        by_cases hc0 : cap = 0
        · subst hc0
          have HC2 : Hid (Calls Try.prog 44 #[.slice (some x) 0 0] wr fun e w' => ∃ sb ab nb cb n y, e = .returned (.tuple #[.agg #[.int .i64 sb, .slice ab nb cb], .int .i64 n, .int .i64 y]) ∧ Hid (y ≠ 0) ∧ Hid (Below wr.heap.size wr w')) := HC.out _ (by exact hv2)
          clear HC hf hv2 RI
          go_wp2_with fail
          refine HC2.out.mono ?_
          rintro e w1 ⟨sb, ab, nb, cb, n, y, rfl, hy, B1⟩
          have y1 : (y == 0) = false := by have := hy.out; simp [this]
          have y2 : (y != 0) = true := by have := hy.out; simp [this]
          go_wp2_with fail
          go_quiet (fail)
          go_wp2
          go_ret2
          exact HE.out _ (up_trans (up_al B1.out _) (up_drewN _ _))
        · have hv3 : Octs wr (.slice (some (x.add 0)) 0 (cap - 0)) [] := ⟨by simp, .inl ⟨rfl, _, _, rfl, fun e => by cases e⟩⟩
          have HC2 : Hid (Calls Try.prog 44 #[.slice (some x) 0 cap] wr fun e w' => ∃ sb ab nb cb n y, e = .returned (.tuple #[.agg #[.int .i64 sb, .slice ab nb cb], .int .i64 n, .int .i64 y]) ∧ Hid (y ≠ 0) ∧ Hid (Below wr.heap.size wr w')) := HC.out _ (by exact hv2)
          clear HC hf hv2 RI
          go_wp2_with fail
          refine HC2.out.mono ?_
          rintro e w1 ⟨sb, ab, nb, cb, n, y, rfl, hy, B1⟩
          have y1 : (y == 0) = false := by have := hy.out; simp [this]
          have y2 : (y != 0) = true := by have := hy.out; simp [this]
          go_wp2_with fail
          go_quiet (fail)
          go_wp2
          go_ret2
          exact HE.out _ (up_trans (up_al B1.out _) (up_drewN _ _))
      · unfold maxLen at hm
        have hoff' : (off : Int) ≤ (b.length : Int) := by omega
        by_cases hcn : cap = off
        · obtain rfl : off = b.length := by omega
          obtain rfl : cap = b.length := hcn
          rw [List.drop_length] at HC
          have hv3 : Octs wr (.slice (some ⟨bb, o, none⟩) 0 0) [] := ⟨by simp, .inl ⟨rfl, _, _, rfl, fun e => by cases e⟩⟩
          have HC2 : Hid (Calls Try.prog 44 #[.slice (some ⟨bb, o, none⟩) 0 0] wr fun e w' => ∃ sb ab nb cb n y, e = .returned (.tuple #[.agg #[.int .i64 sb, .slice ab nb cb], .int .i64 n, .int .i64 y]) ∧ Hid (y ≠ 0) ∧ Hid (Below wr.heap.size wr w')) := HC.out _ hv3
          clear HC hf hv2 RI
          go_wp2_with fail
          refine HC2.out.mono ?_
          rintro e w1 ⟨sb, ab, nb, cb, n, y, rfl, hy, B1⟩
          have y1 : (y == 0) = false := by have := hy.out; simp [this]
          have y2 : (y != 0) = true := by have := hy.out; simp [this]
          go_wp2_with fail
          go_quiet (fail)
          go_wp2
          go_ret2
          exact HE.out _ (up_trans (up_al B1.out _) (up_drewN _ _))
        · have hv3 : Octs wr (.slice (some ⟨bb, o + off, none⟩) (b.length - off) (cap - off)) (b.drop off) := octs_dropP hv2 hoff hc
          have HC2 : Hid (Calls Try.prog 44 #[.slice (some ⟨bb, o + off, none⟩) (b.length - off) (cap - off)] wr fun e w' => ∃ sb ab nb cb n y, e = .returned (.tuple #[.agg #[.int .i64 sb, .slice ab nb cb], .int .i64 n, .int .i64 y]) ∧ Hid (y ≠ 0) ∧ Hid (Below wr.heap.size wr w')) := HC.out _ hv3
          clear HC hf hv2 RI
          go_wp2_with fail
          refine HC2.out.mono ?_
          rintro e w1 ⟨sb, ab, nb, cb, n, y, rfl, hy, B1⟩
          have y1 : (y == 0) = false := by have := hy.out; simp [this]
          have y2 : (y != 0) = true := by have := hy.out; simp [this]
          go_wp2_with fail
          go_quiet (fail)
          go_wp2
          go_ret2
          exact HE.out _ (up_trans (up_al B1.out _) (up_drewN _ _))
    | some v =>
      obtain ⟨s, cs, n⟩ := v
      obtain ⟨h6, hnb, _, _, _, _, hck⟩ := firstP_some (fun y hy => HV.out.1 y (List.mem_of_mem_drop hy)) hf
      rw [List.length_drop] at hnb
      obtain ⟨hs1, hs2, _⟩ := checkOf_ok hck
      rcases hv2.form with ⟨rfl, rfl, rfl⟩ | ⟨x, rfl, rfl⟩ | ⟨bb, o, rfl, hne, hc, hm⟩
      · simp at hnb; omega
      · simp at hnb; omega
      · unfold maxLen at hm
        have hoff' : (off : Int) ≤ (b.length : Int) := by omega
        have hcap' : ¬ cap = off := by omega
        have hv3 : Octs wr (.slice (some ⟨bb, o + off, none⟩) (b.length - off) (cap - off)) (b.drop off) := octs_dropP hv2 hoff hc
        have HC2 : Hid (Calls Try.prog 44 #[.slice (some ⟨bb, o + off, none⟩) (b.length - off) (cap - off)] wr fun e w' => ∃ a' c', e = .returned (.tuple #[.agg #[.int .i64 s, .slice a' cs.length c'], .int .i64 (n : Int), .int .i64 0]) ∧ Hid (OwnC w' wr.heap.size (.slice a' cs.length c') cs) ∧ Hid (Below wr.heap.size wr w')) := first_some _ _ _ hv3 s cs n hf
        have HS : Hid (firstP 4 (b.drop off) = some (s, cs, n)) := hf
        have hon : (off : Int) + (n : Int) ≤ 140737488355328 := by omega
        have hlen := RI.out.nxt.len
        clear hf hv2 hv3
        have HGO : Hid (∀ (hS : nx = none ∨ nx = some s) (wb w3 : World) (av v3 : Value), Below wr.heap.size wr wb → OwnC wb w.heap.size av cs → OwnR w3 w.heap.size 26 2 v3 (ys.map brw ++ [[.int .i64 s, av]]) → wb.grownBy w3 (Value.slice ao ys.length co).ownBlock → ∃ a3 c3, v3 = .slice a3 (ys.length + 1) c3 ∧ Hid (RInv 4 26 b w w3 (ys ++ [(av, s, cs)]) (pre ++ [(s, cs, n)]) (some (s + (cs.length : Int))) (off + n) (f - 1) a3 c3)) := fun hS wb w3 av v3 h1 h2 h3 h4 => RI.out.goes HV.out.1 HS.out hS (by decide) h1 h2 h3 h4
        have HST : Hid (∀ w', ¬ (nx = none ∨ nx = some s) → Below wr.heap.size wr w' → ReplEnd 4 26 b w (.returned (.tuple #[.slice ao ys.length co, .int .i64 (off : Int)])) w') := fun w' hS hb => RI.out.stops HS.out hS hb
        have HSZ : Hid (w.heap.size ≤ wr.heap.size) := RI.out.up.size
        have HM1 : Hid ((((ys.map brw).length + 1) + ((ys.map brw).length + 1) / 4 + 192) * 32 ≤ 281474976710656) := by unfold Hid; rw [List.length_map]; omega
        have HM2 : Hid ((ys.map brw).length + 1 ≤ maxLen) := by unfold Hid maxLen; rw [List.length_map]; omega
        have HOW : Hid (∀ wb, Below wr.heap.size wr wb → OwnR wb w.heap.size 26 2 (.slice ao ys.length co) (ys.map brw)) := fun wb hb => RI.out.own.1.up hb
        have H1 : Hid (∀ (v : Value), v.oneCell' = true → ∀ r ∈ [[Value.int .i64 s, v]], ∀ u ∈ r, u.oneCell' = true) := by
          intro v hv r hr u hu
          simp at hr
          subst hr
          simp at hu
          rcases hu with rfl | rfl
          · rfl
          · exact hv
        rcases RI.out.nxt with ⟨hy0, hn0⟩ | ⟨ys0, y, hy0, hn0, hy1, hy2, hy3⟩
        · subst hy0 hn0
          go_wp2_with fail
          refine HC2.out.mono ?_
          rintro e w1 ⟨a', c', rfl, O1, B1⟩
          have HRW : Hid (∀ d, Rws 2 (((w1.alloc (.cells #[.int .i64 s, .slice a' cs.length c'] 26)).drewN d).alloc (.cells #[.int .i64 s, .slice a' cs.length c'] 26)) (.slice (some ⟨w1.heap.size + 1, 0, none⟩) 1 1) [[.int .i64 s, .slice a' cs.length c']]) := by
            intro d
            have h := Rws.made (sz := 2) ((w1.alloc (.cells #[.int .i64 s, .slice a' cs.length c'] 26)).drewN d) 26 [[.int .i64 s, .slice a' cs.length c']] (by simp) (by simp [maxLen])
            have e : ((w1.alloc (.cells #[.int .i64 s, .slice a' cs.length c'] 26)).drewN d).heap.size = w1.heap.size + 1 := by simp
            rw [e] at h
            exact h
          have HUB : Hid (∀ d, Below wr.heap.size wr (((w1.alloc (.cells #[.int .i64 s, .slice a' cs.length c'] 26)).drewN d).alloc (.cells #[.int .i64 s, .slice a' cs.length c'] 26))) := fun d => up_al (up_trans (up_al B1.out _) (up_drewN _ d)) _
          have HOC : Hid (∀ d, OwnC (((w1.alloc (.cells #[.int .i64 s, .slice a' cs.length c'] 26)).drewN d).alloc (.cells #[.int .i64 s, .slice a' cs.length c'] 26)) w.heap.size (.slice a' cs.length c') cs) := fun d => ((O1.out.mono HSZ.out).up (up_alloc _ _)).up (up_trans (up_drewN _ d) (up_alloc _ _))
          clear HC2 O1 B1 RI HST
          go_wp2_with fail
          go_quiet (fail)
          go_wp2_with (at_builtin; refine wpList_append_rows _ rfl _ _ 53 26 _ 2 32 rfl Try.underlying53 Try.info26 rfl (by decide) w.heap.size _ [] rfl (HOW.out _ (HUB.out _)) _ _ rfl (HRW.out _) (H1.out _ rfl) ?c1 ?c2 ?c3 ?_)
          case c1 => exact HM1.out
          case c2 => exact HM2.out
          case c3 => exact Nat.le_trans HSZ.out (HUB.out _).size
          intro v3 w3 o3 g3
          obtain ⟨a3, c3, rfl, R3⟩ := HGO.out (by simp) _ _ _ _ (HUB.out _) (HOC.out _) o3 g3
          clear o3 g3 HGO HRW HUB HOC HOW
          go_wp2
          exact ⟨⟨_, _, _, off + n, f - 1, a3, c3, rfl, by go_num, R3⟩, by simp [intOf]; omega⟩
        · obtain ⟨m, hm1⟩ : ∃ m, ys.length = m + 1 := ⟨ys0.length, by rw [hy0]; simp⟩
          have hR := Rws.own RI.out.own.1
          obtain ⟨g, og, cg, e, _, _, hcell⟩ := hR.at m (by rw [List.length_map]; omega)
          simp only [Value.slice.injEq] at e
          obtain ⟨rfl, _, rfl⟩ := e
          have hgd : (ys.map brw).getD m [] = brw y := by
            have e0 : m = ys0.length := by rw [hy0] at hm1; simp at hm1; omega
            rw [hy0, e0]
            simp [List.getD]
          rw [hgd] at hcell
          obtain ⟨ya, yc, hyv⟩ := (RI.out.own.2 y (by rw [hy0]; simp)).shape
          obtain ⟨yv, ysq, ycs⟩ := y
          simp only at hyv hy1 hy2 hn0
          subst hyv
          have r0 : wr.cell? ⟨g, og + m * 2, none⟩ = some (.int .i64 ysq) := hcell 0 _ rfl
          have r1 : wr.cell? ⟨g, og + m * 2 + 1, none⟩ = some (.slice ya ycs.length yc) := hcell 1 _ rfl
          have hcc : m + 1 ≤ co ∧ co ≤ 9223372036854775807 := by
            obtain ⟨x, z, e, h1, h2⟩ := hR.len
            rw [List.length_map] at e h1
            simp only [Value.slice.injEq] at e
            obtain ⟨_, _, rfl⟩ := e
            unfold maxLen at h2
            omega
          obtain ⟨hcc1, hcc2⟩ := hcc
          have HN : Hid (nx = some (ysq + (ycs.length : Int))) := hn0
          have hq1 : 0 ≤ ysq := by omega
          have hq2 : ysq ≤ 1099511627776 := by omega
          have hq3 : ycs.length ≤ 64 := by omega
          have hmb : m ≤ 1099511627776 := by omega
          have hmi : (m : Int) ≤ 1099511627776 := by omega
          have hm0 : (0 : Int) ≤ (m : Int) := by omega
          have hmw : IntKind.i64.wrap (m : Int) = (m : Int) := wrap64_id _ (by omega) (by omega)
          have hmw2 : IntKind.i64.wrap ((m : Int) + 1 - 1) = (m : Int) := by rw [Int.add_sub_cancel]; exact hmw
          have hml : (m : Int) < (m : Int) + 1 := by omega
          rw [hm1]
          rw [hm1] at HGO HST HOW
          clear hR hcell hgd hy0 hy3 hn0 RI hlen
          go_wp2_with fail
          refine HC2.out.mono ?_
          rintro e w1 ⟨a', c', rfl, O1, B1⟩
          have HBH : Hid (Calls Try.prog 45 #[.agg #[.int .i64 ysq, .slice ya ycs.length yc]] (w1.alloc (.cells #[.int .i64 s, .slice a' cs.length c'] 26)).drew fun e w' => e = .returned (.int .i64 (ysq + (ycs.length : Int))) ∧ w'.cell? ⟨w1.heap.size, 0, none⟩ = some (.int .i64 s) ∧ w'.cell? ⟨w1.heap.size, 1, none⟩ = some (.slice a' cs.length c') ∧ w'.cell? ⟨g, og + m * 2, none⟩ = some (.int .i64 ysq) ∧ w'.cell? ⟨g, og + m * 2 + 1, none⟩ = some (.slice ya ycs.length yc) ∧ Hid (Below wr.heap.size wr w') ∧ Hid (OwnC w' w.heap.size (.slice a' cs.length c') cs)) := by
            refine (behind_any ysq ya ycs.length yc _ hq1 hq2 hq3).mono ?_
            rintro e w' ⟨rfl, rfl⟩
            have u := up_al (up_dr (up_al B1.out (.cells #[.int .i64 s, .slice a' cs.length c'] 26))) (.cells #[.int .i64 ysq, .slice ya ycs.length yc] 26)
            have bx := blk_up (blk_up (blk_new w1 (.cells #[.int .i64 s, .slice a' cs.length c'] 26)) (up_dr (Below.refl _ _))) (up_alloc _ (.cells #[.int .i64 ysq, .slice ya ycs.length yc] 26))
            exact ⟨rfl, blk_cell bx 0 _ rfl, blk_cell bx 1 _ rfl, (u.cell (World.block_lt_of_cell? wr _ r0)).trans r0, (u.cell (World.block_lt_of_cell? wr _ r1)).trans r1, u, ((O1.out.mono HSZ.out).up (up_alloc _ _)).up (up_trans (up_dr (Below.refl _ _)) (up_alloc _ _))⟩
          have u0 : Below wr.heap.size wr (w1.alloc (.cells #[.int .i64 s, .slice a' cs.length c'] 26)) := up_al B1.out _
          have x0 : (w1.alloc (.cells #[.int .i64 s, .slice a' cs.length c'] 26)).cell? ⟨w1.heap.size, 0, none⟩ = some (.int .i64 s) := blk_cell (blk_new _ _) 0 _ rfl
          have x1 : (w1.alloc (.cells #[.int .i64 s, .slice a' cs.length c'] 26)).cell? ⟨w1.heap.size, 1, none⟩ = some (.slice a' cs.length c') := blk_cell (blk_new _ _) 1 _ rfl
          have x2 : (w1.alloc (.cells #[.int .i64 s, .slice a' cs.length c'] 26)).cell? ⟨g, og + m * 2, none⟩ = some (.int .i64 ysq) := (u0.cell (World.block_lt_of_cell? wr _ r0)).trans r0
          have x3 : (w1.alloc (.cells #[.int .i64 s, .slice a' cs.length c'] 26)).cell? ⟨g, og + m * 2 + 1, none⟩ = some (.slice ya ycs.length yc) := (u0.cell (World.block_lt_of_cell? wr _ r1)).trans r1
          clear r0 r1 HC2 O1 B1 u0
          go_wp2_with fail
          generalize w1.alloc (.cells #[.int .i64 s, .slice a' cs.length c'] 26) = wq at *
          go_region_held3 (fun w' => w'.cell? ⟨w1.heap.size, 0, none⟩ = some (.int .i64 s) ∧ w'.cell? ⟨w1.heap.size, 1, none⟩ = some (.slice a' cs.length c') ∧ w'.cell? ⟨g, og + m * 2, none⟩ = some (.int .i64 ysq) ∧ w'.cell? ⟨g, og + m * 2 + 1, none⟩ = some (.slice ya ycs.length yc)) (first | with_reducible exact ⟨y0, y1, y2, y3⟩ | with_reducible exact ⟨x0, x1, x2, x3⟩ | (simp [go_sem, x0, x1, x2, x3]; done)) (first
            | (go_at_call 45; with_reducible refine HBH.out.mono ?_; rintro e w2 ⟨rfl, y0, y1, y2, y3, U2, O2⟩))
          all_goals
            by_cases hse : s = ysq + (ycs.length : Int)
            · have hs1 : (s == ysq + (ycs.length : Int)) = true := by simp [hse]
              have hs2 : (s != ysq + (ycs.length : Int)) = false := by simp [hse]
              have HNS : Hid (nx = some s) := by unfold Hid; rw [hse]; exact HN.out
              have HRW : Hid (Rws 2 (w2.alloc (.cells #[.int .i64 s, .slice a' cs.length c'] 26)) (.slice (some ⟨w2.heap.size, 0, none⟩) 1 1) [[.int .i64 s, .slice a' cs.length c']]) := Rws.made (sz := 2) w2 26 [[.int .i64 s, .slice a' cs.length c']] (by simp) (by simp [maxLen])
              have HUB : Hid (Below wr.heap.size wr (w2.alloc (.cells #[.int .i64 s, .slice a' cs.length c'] 26))) := up_al U2.out _
              have HOC : Hid (OwnC (w2.alloc (.cells #[.int .i64 s, .slice a' cs.length c'] 26)) w.heap.size (.slice a' cs.length c') cs) := O2.out.up (up_alloc _ _)
              clear hse y2 y3 x0 x1 x2 x3 HST HBH U2 O2
              go_wp2_with (at_builtin; refine wpList_append_rows _ rfl _ _ 53 26 _ 2 32 rfl Try.underlying53 Try.info26 rfl (by decide) w.heap.size _ (ys.map brw) rfl (HOW.out _ HUB.out) _ _ rfl HRW.out (H1.out _ rfl) ?c1 ?c2 ?c3 ?_)
              case c1 => exact HM1.out
              case c2 => exact HM2.out
              case c3 => exact Nat.le_trans HSZ.out HUB.out.size
              intro v3 w3 o3 g3
              obtain ⟨a3, c3, rfl, R3⟩ := HGO.out (.inr HNS.out) _ _ _ _ HUB.out HOC.out o3 g3
              clear o3 g3 HGO HRW HUB HOC HOW
              go_wp2
              exact ⟨⟨_, _, _, off + n, f - 1, a3, c3, by simp [hm1], by go_num, R3⟩, by simp [intOf]; omega⟩
            · have hs1 : (s == ysq + (ycs.length : Int)) = false := by simp [hse]
              have hs2 : (s != ysq + (ycs.length : Int)) = true := by simp [hse]
              have HF := HST.out w2 (by rw [HN.out]; simp; exact fun e => hse e.symm) U2.out
              have HF2 : Hid (ReplEnd 4 26 b w (.returned (.tuple #[.slice (some ⟨g, og, none⟩) (m + 1) co, .int .i64 (off : Int)])) w2) := HF
              clear HF HST HGO HOW HBH
              go_wp2
              go_ret2
              exact HF2.out
end Go.Proofs.Ytgphkddcfcmaiaa
