/- The document's Replay of layer 6. -/
import Derived.Test.YtgphkddcfcmaiaaGDec
import Derived.Test.YtgphkddcfcmaiaaGGet
import Derived.Test.YtgphkddcfcmaiaaWRep2
namespace Go.Proofs.Ytgphkddcfcmaiaa
open Go.RowKit SumPlain
set_option linter.unusedVariables false

theorem rget_shape (b : List Int) (v : Value) (w : World) (hv : Octs w v b) :
    Calls Try.prog 46 #[v] w fun e w' => ∃ ad cd, e = .returned (.tuple #[.agg #[.int .i64 (fget b).1, .slice ad (fget b).2.1.length cd], .int .i64 (fget b).2.2.1, .int .i64 (fget b).2.2.2]) ∧ Hid (Octs w' (.slice ad (fget b).2.1.length cd) (fget b).2.1) ∧ Hid (Below w.heap.size w w') := by
  refine (rget_any b v w hv).mono ?_
  rintro e w' ⟨vd, rfl, hn, hb⟩
  obtain ⟨ad, cd, rfl, _, _⟩ := hn.1.len
  exact ⟨ad, cd, rfl, hn.1, hb⟩

theorem refDec_bad (X : List Int) (ax : Option Addr) (cx : Nat) (w : World) (hx : Octs w (.slice ax X.length cx) X) (hl : X.length ≤ 140737488355328) (z : Int) (hz : decP 5 X = .error z) :
    Calls Try.prog 14 #[.slice ax X.length cx] w fun e w' => ∃ y, e = .returned (.tuple #[.agg #[.int .i64 0, .slice none 0 0], .int .i64 y]) ∧ Hid (y ≠ 0) ∧ Hid (Below w.heap.size w w') := by
  refine (refDec_any X ax cx w hx hl).mono ?_
  intro e w' h
  unfold DecEnd at h
  rw [hz] at h
  obtain ⟨y, h1, h2, h3⟩ := h
  exact ⟨y, h2, h1, h3⟩
theorem refDec_ok (X : List Int) (ax : Option Addr) (cx : Nat) (w : World) (hx : Octs w (.slice ax X.length cx) X) (hl : X.length ≤ 140737488355328) (s : Int) (cs : List Chg) (hz : decP 5 X = .ok (s, cs)) :
    Calls Try.prog 14 #[.slice ax X.length cx] w fun e w' => ∃ a c, e = .returned (.tuple #[.agg #[.int .i64 s, .slice a cs.length c], .int .i64 0]) ∧ Hid (OwnC w' w.heap.size (.slice a cs.length c) cs) ∧ Hid (Below w.heap.size w w') := by
  refine (refDec_any X ax cx w hx hl).mono ?_
  intro e w' h
  unfold DecEnd at h
  rw [hz] at h
  obtain ⟨a, c, h1, h2, h3⟩ := h
  exact ⟨a, c, h1, h2, h3⟩

set_option maxHeartbeats 2000000 in
set_option maxRecDepth 100000 in
theorem refReplay_any (b : List Int) (v : Value) (w : World) (hv : Octs w v b) (hl : b.length ≤ 140737488355328) :
    Calls Try.prog 27 #[v] w fun e w' => ReplEnd 5 24 b w e w' := by
  obtain ⟨a, cap, rfl, hcap, _⟩ := hv.len
  have HV : Hid (Octs w (.slice a b.length cap) b) := hv
  clear hv
  go_enter Try.func27, Try.ntmps27
  go_wp2_with fail
  go_loopw [4, 5] (fun o p wr => ∃ (ys : List (Value × Int × List Chg)) (pre : List (Int × List Chg × Nat)) (nx : Option Int) (off f : Nat) (ao : Option Addr) (co : Nat), o = .slice ao ys.length co ∧ p = .int .i64 (off : Int) ∧ Hid (RInv 5 24 b w wr ys pre nx off f ao co)) (fun _ p _ => b.length - (intOf p).toNat)
  case atStart => exact ⟨[], [], none, 0, b.length + 1, none, 0, rfl, rfl, ⟨ReplAt.start 5 b, .inl ⟨rfl, rfl⟩, rfl, BatsO.nil _ _ _, Below.refl _ _⟩⟩
  case round =>
    obtain ⟨ys, pre, nx, off, f, ao, co, rfl, rfl, RI⟩ := hrel
    have hoff : off ≤ b.length := RI.out.at_.2.2.1
    have hv2 : Octs wr (.slice a b.length cap) b := HV.out.up RI.out.up
    have hdx : ∀ y ∈ b.drop off, 0 ≤ y ∧ y ≤ 255 := fun y hy => HV.out.1 y (List.mem_of_mem_drop hy)
    have HG0 := fun v' (h : Octs wr v' (b.drop off)) => rget_shape (b.drop off) v' wr h
    obtain ⟨k0, d0, z0, e0, hE⟩ : ∃ k0 d0 z0 e0, fget (b.drop off) = (k0, d0, z0, e0) := ⟨_, _, _, _, rfl⟩
    simp only [hE] at HG0
    have HG : Hid (∀ v', Octs wr v' (b.drop off) → Calls Try.prog 46 #[v'] wr fun e w' => ∃ ad cd, e = .returned (.tuple #[.agg #[.int .i64 k0, .slice ad d0.length cd], .int .i64 z0, .int .i64 e0]) ∧ Hid (Octs w' (.slice ad d0.length cd) d0) ∧ Hid (Below wr.heap.size wr w')) := HG0
    clear HG0
    by_cases he : e0 = 0
    · subst he
      obtain ⟨n, hzn, h6, hnb, _, hd0x, hd0l, _⟩ := fget_ok (b.drop off) hdx (by rw [hE])
      rw [hE] at hzn hd0x hd0l
      simp only at hzn hd0x hd0l
      rw [List.length_drop] at hnb
      subst hzn
      rcases hv2.form with ⟨rfl, rfl, rfl⟩ | ⟨x, rfl, rfl⟩ | ⟨bb, o, rfl, hne, hc, hm⟩
      · simp at hnb; omega
      · simp at hnb; omega
      · unfold maxLen at hm
        have hoff' : (off : Int) ≤ (b.length : Int) := by omega
        have hcap' : ¬ cap = off := by omega
        have hon : (off : Int) + (n : Int) ≤ 140737488355328 := by omega
        have HC2 : Hid (Calls Try.prog 46 #[.slice (some ⟨bb, o + off, none⟩) (b.length - off) (cap - off)] wr fun e w' => ∃ ad cd, e = .returned (.tuple #[.agg #[.int .i64 k0, .slice ad d0.length cd], .int .i64 (n : Int), .int .i64 0]) ∧ Hid (Octs w' (.slice ad d0.length cd) d0) ∧ Hid (Below wr.heap.size wr w')) := HG.out _ (octs_drop hv2 hoff hc)
        clear HG hv2 hdx
        by_cases hk : k0 = 1
        · subst hk
          cases hdc : decP 5 d0 with
          | error z =>
            have hf : firstP 5 (b.drop off) = none := by
              unfold firstP
              rw [hE]
              simp only [and_self, if_true, hdc]
            have HE : Hid (∀ w', Below wr.heap.size wr w' → ReplEnd 5 24 b w (.returned (.tuple #[.slice ao ys.length co, .int .i64 (off : Int)])) w') := fun w' hb => RI.out.ends hf hb
            clear hf hE RI
            go_wp2_with fail
            refine HC2.out.mono ?_
            rintro e w1 ⟨ad, cd, rfl, O1, B1⟩
            clear HC2
            go_wp2_with fail
            refine (refDec_bad d0 ad cd _ (O1.out.up (up_alloc _ _)) (by omega) z hdc).mono ?_
            rintro e w2 ⟨y, rfl, hy, B2⟩
            have y1 : (y == 0) = false := by have := hy.out; simp [this]
            have y2 : (y != 0) = true := by have := hy.out; simp [this]
            have U2 : Hid (∀ o, Below wr.heap.size wr (w2.alloc o)) := fun o => up_al (up_trans (up_al B1.out _) B2.out) o
            clear B1 B2 O1
            go_wp2
            go_ret2
            exact HE.out _ (U2.out _)
          | ok v =>
            obtain ⟨s, cs⟩ := v
            have hf : firstP 5 (b.drop off) = some (s, cs, n) := by
              unfold firstP
              rw [hE]
              simp only [and_self, if_true, hdc, Int.toNat_natCast]
            obtain ⟨_, _, _, _, _, _, hck⟩ := firstP_some (fun y hy => HV.out.1 y (List.mem_of_mem_drop hy)) hf
            obtain ⟨hs1, hs2, _⟩ := checkOf_ok hck
            have HS : Hid (firstP 5 (b.drop off) = some (s, cs, n)) := hf
            have hlen := RI.out.nxt.len
            have HDC : Hid (decP 5 d0 = .ok (s, cs)) := hdc
            clear hf hE hdc
            have HGO : Hid (∀ (hS : nx = none ∨ nx = some s) (wb w3 : World) (av v3 : Value), Below wr.heap.size wr wb → OwnC wb w.heap.size av cs → OwnR w3 w.heap.size 24 2 v3 (ys.map brw ++ [[.int .i64 s, av]]) → wb.grownBy w3 (Value.slice ao ys.length co).ownBlock → ∃ a3 c3, v3 = .slice a3 (ys.length + 1) c3 ∧ Hid (RInv 5 24 b w w3 (ys ++ [(av, s, cs)]) (pre ++ [(s, cs, n)]) (some (s + (cs.length : Int))) (off + n) (f - 1) a3 c3)) := fun hS wb w3 av v3 h1 h2 h3 h4 => RI.out.goes HV.out.1 HS.out hS (by decide) h1 h2 h3 h4
            have HST : Hid (∀ w', ¬ (nx = none ∨ nx = some s) → Below wr.heap.size wr w' → ReplEnd 5 24 b w (.returned (.tuple #[.slice ao ys.length co, .int .i64 (off : Int)])) w') := fun w' hS hb => RI.out.stops HS.out hS hb
            have HSZ : Hid (w.heap.size ≤ wr.heap.size) := RI.out.up.size
            have HM1 : Hid ((((ys.map brw).length + 1) + ((ys.map brw).length + 1) / 4 + 192) * 32 ≤ 281474976710656) := by unfold Hid; rw [List.length_map]; omega
            have HM2 : Hid ((ys.map brw).length + 1 ≤ maxLen) := by unfold Hid maxLen; rw [List.length_map]; omega
            have HOW : Hid (∀ wb, Below wr.heap.size wr wb → OwnR wb w.heap.size 24 2 (.slice ao ys.length co) (ys.map brw)) := fun wb hb => RI.out.own.1.up hb
            have H1 : Hid (∀ (v : Value), v.oneCell' = true → ∀ r ∈ [[Value.int .i64 s, v]], ∀ u ∈ r, u.oneCell' = true) := by
              intro v hv r hr u hu
              simp at hr
              subst hr
              simp at hu
              rcases hu with rfl | rfl
              · rfl
              · exact hv
            rcases RI.out.nxt with ⟨hy0, hn0⟩ | ⟨ys0, y, hy0, hn0, hy1, hy2, hy3⟩
            · subst hy0 hn0
              clear RI HST
              go_wp2_with fail
              refine HC2.out.mono ?_
              rintro e w1 ⟨ad, cd, rfl, O1, B1⟩
              clear HC2
              go_wp2_with fail
              refine (refDec_ok d0 ad cd _ (O1.out.up (up_alloc _ _)) (by omega) s cs HDC.out).mono ?_
              rintro e w2 ⟨a', c', rfl, O2, B2⟩
              have U2 : Hid (Below wr.heap.size wr w2) := up_trans (up_al B1.out _) B2.out
              have O2' : Hid (OwnC w2 w.heap.size (.slice a' cs.length c') cs) := O2.out.mono (Nat.le_trans HSZ.out (up_al B1.out _).size)
              clear O1 B1 O2 B2
              have HRW : Hid (∀ d, Rws 2 (((w2.alloc (.cells #[.int .i64 s, .slice a' cs.length c'] 24)).drewN d).alloc (.cells #[.int .i64 s, .slice a' cs.length c'] 24)) (.slice (some ⟨w2.heap.size + 1, 0, none⟩) 1 1) [[.int .i64 s, .slice a' cs.length c']]) := by
                intro d
                have h := Rws.made (sz := 2) ((w2.alloc (.cells #[.int .i64 s, .slice a' cs.length c'] 24)).drewN d) 24 [[.int .i64 s, .slice a' cs.length c']] (by simp) (by simp [maxLen])
                have e : ((w2.alloc (.cells #[.int .i64 s, .slice a' cs.length c'] 24)).drewN d).heap.size = w2.heap.size + 1 := by simp
                rw [e] at h
                exact h
              have HUB : Hid (∀ d, Below wr.heap.size wr (((w2.alloc (.cells #[.int .i64 s, .slice a' cs.length c'] 24)).drewN d).alloc (.cells #[.int .i64 s, .slice a' cs.length c'] 24))) := fun d => up_al (up_trans (up_al U2.out _) (up_drewN _ d)) _
              have HOC : Hid (∀ d, OwnC (((w2.alloc (.cells #[.int .i64 s, .slice a' cs.length c'] 24)).drewN d).alloc (.cells #[.int .i64 s, .slice a' cs.length c'] 24)) w.heap.size (.slice a' cs.length c') cs) := fun d => (O2'.out.up (up_alloc _ _)).up (up_trans (up_drewN _ d) (up_alloc _ _))
              go_wp2_with fail
              go_quiet (fail)
              go_wp2_with (at_builtin; refine wpList_append_rows _ rfl _ _ 56 24 _ 2 32 rfl Try.underlying56 Try.info24 rfl (by decide) w.heap.size (.slice ao 0 co) [] rfl (HOW.out _ (HUB.out _)) (.slice (some ⟨w2.heap.size + 1, 0, none⟩) 1 1) _ rfl (HRW.out _) (H1.out _ rfl) ?c1 ?c2 ?c3 ?_)
              case c1 => exact HM1.out
              case c2 => exact HM2.out
              case c3 => exact Nat.le_trans HSZ.out (HUB.out _).size
              intro v3 w3 o3 g3
              obtain ⟨a3, c3, rfl, R3⟩ := HGO.out (by simp) _ _ _ _ (HUB.out _) (HOC.out _) o3 g3
              clear o3 g3 HGO HRW HUB HOC HOW
              go_wp2
              exact ⟨⟨_, _, _, off + n, f - 1, a3, c3, rfl, by go_num, R3⟩, by simp [intOf]; omega⟩
            · obtain ⟨m, hm1⟩ : ∃ m, ys.length = m + 1 := ⟨ys0.length, by rw [hy0]; simp⟩
              have hR := Rws.own RI.out.own.1
              obtain ⟨g, og, cg, e, _, _, hcell⟩ := hR.at m (by rw [List.length_map]; omega)
              simp only [Value.slice.injEq] at e
              obtain ⟨rfl, _, rfl⟩ := e
              have hgd : (ys.map brw).getD m [] = brw y := by
                have e0 : m = ys0.length := by rw [hy0] at hm1; simp at hm1; omega
                rw [hy0, e0]
                simp [List.getD]
              rw [hgd] at hcell
              obtain ⟨ya, yc, hyv⟩ := (RI.out.own.2 y (by rw [hy0]; simp)).shape
              obtain ⟨yv, ysq, ycs⟩ := y
              simp only at hyv hy1 hy2 hn0
              subst hyv
              have r0 : wr.cell? ⟨g, og + m * 2, none⟩ = some (.int .i64 ysq) := hcell 0 _ rfl
              have r1 : wr.cell? ⟨g, og + m * 2 + 1, none⟩ = some (.slice ya ycs.length yc) := hcell 1 _ rfl
              have hcc : m + 1 ≤ co ∧ co ≤ 9223372036854775807 := by
                obtain ⟨x, z, e, h1, h2⟩ := hR.len
                rw [List.length_map] at e h1
                simp only [Value.slice.injEq] at e
                obtain ⟨_, _, rfl⟩ := e
                unfold maxLen at h2
                omega
              obtain ⟨hcc1, hcc2⟩ := hcc
              have HN : Hid (nx = some (ysq + (ycs.length : Int))) := hn0
              have hq1 : 0 ≤ ysq := by omega
              have hq2 : ysq ≤ 1099511627776 := by omega
              have hq3 : (ycs.length : Int) ≤ 64 := by omega
              have hmb : m ≤ 1099511627776 := by omega
              have hmi : (m : Int) ≤ 1099511627776 := by omega
              have hm0 : (0 : Int) ≤ (m : Int) := by omega
              have hmw : IntKind.i64.wrap (m : Int) = (m : Int) := wrap64_id _ (by omega) (by omega)
              have hmw2 : IntKind.i64.wrap ((m : Int) + 1 - 1) = (m : Int) := by rw [Int.add_sub_cancel]; exact hmw
              have hml : (m : Int) < (m : Int) + 1 := by omega
              have hsw : IntKind.i64.wrap (ysq + (ycs.length : Int)) = ysq + (ycs.length : Int) := wrap64_id _ (by omega) (by omega)
              rw [hm1]
              rw [hm1] at HGO HST HOW
              clear hR hcell hgd hy0 hy3 hn0 RI hlen
              go_wp2_with fail
              refine HC2.out.mono ?_
              rintro e w1 ⟨ad, cd, rfl, O1, B1⟩
              clear HC2
              go_wp2_with fail
              refine (refDec_ok d0 ad cd _ (O1.out.up (up_alloc _ _)) (by omega) s cs HDC.out).mono ?_
              rintro e w2 ⟨a', c', rfl, O2, B2⟩
              have U2 : Hid (Below wr.heap.size wr w2) := up_trans (up_al B1.out _) B2.out
              have O2' : Hid (OwnC w2 w.heap.size (.slice a' cs.length c') cs) := O2.out.mono (Nat.le_trans HSZ.out (up_al B1.out _).size)
              have x2 : ∀ q, (w2.alloc q).cell? ⟨g, og + m * 2, none⟩ = some (.int .i64 ysq) := fun q => ((up_al U2.out q).cell (World.block_lt_of_cell? wr _ r0)).trans r0
              have x3 : ∀ q, (w2.alloc q).cell? ⟨g, og + m * 2 + 1, none⟩ = some (.slice ya ycs.length yc) := fun q => ((up_al U2.out q).cell (World.block_lt_of_cell? wr _ r1)).trans r1
              have HRW : Hid (∀ d, Rws 2 (((w2.alloc (.cells #[.int .i64 s, .slice a' cs.length c'] 24)).drewN d).alloc (.cells #[.int .i64 s, .slice a' cs.length c'] 24)) (.slice (some ⟨w2.heap.size + 1, 0, none⟩) 1 1) [[.int .i64 s, .slice a' cs.length c']]) := by
                intro d
                have h := Rws.made (sz := 2) ((w2.alloc (.cells #[.int .i64 s, .slice a' cs.length c'] 24)).drewN d) 24 [[.int .i64 s, .slice a' cs.length c']] (by simp) (by simp [maxLen])
                have e : ((w2.alloc (.cells #[.int .i64 s, .slice a' cs.length c'] 24)).drewN d).heap.size = w2.heap.size + 1 := by simp
                rw [e] at h
                exact h
              have HUB : Hid (∀ d, Below wr.heap.size wr (((w2.alloc (.cells #[.int .i64 s, .slice a' cs.length c'] 24)).drewN d).alloc (.cells #[.int .i64 s, .slice a' cs.length c'] 24))) := fun d => up_al (up_trans (up_al U2.out _) (up_drewN _ d)) _
              have HUR : Hid (∀ d, Below wr.heap.size wr ((w2.alloc (.cells #[.int .i64 s, .slice a' cs.length c'] 24)).drewN d)) := fun d => up_trans (up_al U2.out _) (up_drewN _ d)
              have HOC : Hid (∀ d, OwnC (((w2.alloc (.cells #[.int .i64 s, .slice a' cs.length c'] 24)).drewN d).alloc (.cells #[.int .i64 s, .slice a' cs.length c'] 24)) w.heap.size (.slice a' cs.length c') cs) := fun d => (O2'.out.up (up_alloc _ _)).up (up_trans (up_drewN _ d) (up_alloc _ _))
              clear O1 B1 O2 B2 r0 r1
              by_cases hse : s = ysq + (ycs.length : Int)
              · have hs1' : (s == ysq + (ycs.length : Int)) = true := by simp [hse]
                have hs2' : (s != ysq + (ycs.length : Int)) = false := by simp [hse]
                have HNS : Hid (nx = some s) := by unfold Hid; rw [hse]; exact HN.out
                clear hse HST
                go_wp2_with fail
                go_quiet (fail)
                go_wp2_with (at_builtin; refine wpList_append_rows _ rfl _ _ 56 24 _ 2 32 rfl Try.underlying56 Try.info24 rfl (by decide) w.heap.size (.slice (some ⟨g, og, none⟩) (m + 1) co) (ys.map brw) rfl (HOW.out _ (HUB.out _)) (.slice (some ⟨w2.heap.size + 1, 0, none⟩) 1 1) _ rfl (HRW.out _) (H1.out _ rfl) ?c4 ?c5 ?c6 ?_)
                case c4 => exact HM1.out
                case c5 => exact HM2.out
                case c6 => exact Nat.le_trans HSZ.out (HUB.out _).size
                intro v3 w3 o3 g3
                obtain ⟨a3, c3, rfl, R3⟩ := HGO.out (.inr HNS.out) _ _ _ _ (HUB.out _) (HOC.out _) o3 g3
                clear o3 g3 HGO HRW HUB HOC HOW
                go_wp2
                exact ⟨⟨_, _, _, off + n, f - 1, a3, c3, by simp [hm1], by go_num, R3⟩, by simp [intOf]; omega⟩
              · have hs1' : (s == ysq + (ycs.length : Int)) = false := by simp [hse]
                have hs2' : (s != ysq + (ycs.length : Int)) = true := by simp [hse]
                have HF2 : Hid (∀ w', Below wr.heap.size wr w' → ReplEnd 5 24 b w (.returned (.tuple #[.slice (some ⟨g, og, none⟩) (m + 1) co, .int .i64 (off : Int)])) w') := fun w' hb => HST.out w' (by rw [HN.out]; simp; exact fun e => hse e.symm) hb
                clear HST HGO HOW
                go_wp2_with fail
                go_quiet (fail)
                go_wp2
                go_ret2
                exact HF2.out _ (HUR.out _)
        · have hk1 : (k0 == 1) = false := by simp [hk]
          have hk2 : (k0 != 1) = true := by simp [hk]
          have hf : firstP 5 (b.drop off) = none := by
            unfold firstP
            rw [hE]
            simp [hk]
          have HE : Hid (∀ w', Below wr.heap.size wr w' → ReplEnd 5 24 b w (.returned (.tuple #[.slice ao ys.length co, .int .i64 (off : Int)])) w') := fun w' hb => RI.out.ends hf hb
          clear hf hE RI
          go_wp2_with fail
          refine HC2.out.mono ?_
          rintro e w1 ⟨ad, cd, rfl, O1, B1⟩
          clear HC2
          go_wp2
          go_ret2
          exact HE.out _ (up_al B1.out _)
    · have he1 : (e0 == 0) = false := by simp [he]
      have he2 : (e0 != 0) = true := by simp [he]
      have hf : firstP 5 (b.drop off) = none := by
        unfold firstP
        rw [hE]
        simp [he]
      have HE : Hid (∀ w', Below wr.heap.size wr w' → ReplEnd 5 24 b w (.returned (.tuple #[.slice ao ys.length co, .int .i64 (off : Int)])) w') := fun w' hb => RI.out.ends hf hb
      clear hf hE hdx
      rcases hv2.form with ⟨rfl, rfl, rfl⟩ | ⟨x, rfl, rfl⟩ | ⟨bb, o, rfl, hne, hc, hm⟩
      · simp at hoff
        subst hoff
        have HC2 : Hid (Calls Try.prog 46 #[.slice none 0 0] wr fun e w' => ∃ ad cd, e = .returned (.tuple #[.agg #[.int .i64 k0, .slice ad d0.length cd], .int .i64 z0, .int .i64 e0]) ∧ Hid (Octs w' (.slice ad d0.length cd) d0) ∧ Hid (Below wr.heap.size wr w')) := HG.out _ hv2
        clear HG hv2 RI
        go_wp2_with fail
        refine HC2.out.mono ?_
        rintro e w1 ⟨ad, cd, rfl, O1, B1⟩
        clear HC2
        go_wp2
        go_ret2
        exact HE.out _ (up_al B1.out _)
      · simp at hoff
        subst hoff
        by_cases hc0 : cap = 0
        · subst hc0
          have HC2 : Hid (Calls Try.prog 46 #[.slice (some x) 0 0] wr fun e w' => ∃ ad cd, e = .returned (.tuple #[.agg #[.int .i64 k0, .slice ad d0.length cd], .int .i64 z0, .int .i64 e0]) ∧ Hid (Octs w' (.slice ad d0.length cd) d0) ∧ Hid (Below wr.heap.size wr w')) := HG.out _ hv2
          clear HG hv2 RI
          go_wp2_with fail
          refine HC2.out.mono ?_
          rintro e w1 ⟨ad, cd, rfl, O1, B1⟩
          clear HC2
          go_wp2
          go_ret2
          exact HE.out _ (up_al B1.out _)
        · skip
          have HC2 : Hid (Calls Try.prog 46 #[.slice (some x) 0 cap] wr fun e w' => ∃ ad cd, e = .returned (.tuple #[.agg #[.int .i64 k0, .slice ad d0.length cd], .int .i64 z0, .int .i64 e0]) ∧ Hid (Octs w' (.slice ad d0.length cd) d0) ∧ Hid (Below wr.heap.size wr w')) := HG.out _ hv2
          clear HG hv2 RI
          go_wp2_with fail
          refine HC2.out.mono ?_
          rintro e w1 ⟨ad, cd, rfl, O1, B1⟩
          clear HC2
          go_wp2
          go_ret2
          exact HE.out _ (up_al B1.out _)
      · unfold maxLen at hm
        have hoff' : (off : Int) ≤ (b.length : Int) := by omega
        by_cases hcn : cap = off
        · obtain rfl : off = b.length := by omega
          obtain rfl : cap = b.length := hcn
          rw [List.drop_length] at HG
          have hv3 : Octs wr (.slice (some ⟨bb, o, none⟩) 0 0) [] := ⟨by simp, .inl ⟨rfl, _, _, rfl, fun e => by cases e⟩⟩
          have HC2 : Hid (Calls Try.prog 46 #[.slice (some ⟨bb, o, none⟩) 0 0] wr fun e w' => ∃ ad cd, e = .returned (.tuple #[.agg #[.int .i64 k0, .slice ad d0.length cd], .int .i64 z0, .int .i64 e0]) ∧ Hid (Octs w' (.slice ad d0.length cd) d0) ∧ Hid (Below wr.heap.size wr w')) := HG.out _ hv3
          clear HG hv2 RI
          go_wp2_with fail
          refine HC2.out.mono ?_
          rintro e w1 ⟨ad, cd, rfl, O1, B1⟩
          clear HC2
          go_wp2
          go_ret2
          exact HE.out _ (up_al B1.out _)
        · have hv3 : Octs wr (.slice (some ⟨bb, o + off, none⟩) (b.length - off) (cap - off)) (b.drop off) := octs_drop hv2 hoff hc
          have HC2 : Hid (Calls Try.prog 46 #[.slice (some ⟨bb, o + off, none⟩) (b.length - off) (cap - off)] wr fun e w' => ∃ ad cd, e = .returned (.tuple #[.agg #[.int .i64 k0, .slice ad d0.length cd], .int .i64 z0, .int .i64 e0]) ∧ Hid (Octs w' (.slice ad d0.length cd) d0) ∧ Hid (Below wr.heap.size wr w')) := HG.out _ hv3
          clear HG hv2 RI
          go_wp2_with fail
          refine HC2.out.mono ?_
          rintro e w1 ⟨ad, cd, rfl, O1, B1⟩
          clear HC2
          go_wp2
          go_ret2
          exact HE.out _ (up_al B1.out _)
end Go.Proofs.Ytgphkddcfcmaiaa
