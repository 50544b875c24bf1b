/- The law's chain of batches, walked. -/
import Derived.Test.YtgphkddcfcmaiaaWChain
namespace Go.Proofs.Ytgphkddcfcmaiaa
open Go.RowKit SumPlain
set_option linter.unusedVariables false

/-- The log of what was chained. -/
abbrev logOf (gs : List (Value × Int × List Chg)) : List Int := catF ((gs.map (·.2)).map recOf)

def ChainEnd (w : World) (e : Ending) (w' : World) : Prop :=
  ∃ (gs : List (Value × Int × List Chg)) (ag : Option Addr) (cg : Nat) (al : Option Addr) (cl : Nat) (ae : Option Addr) (ce : Nat) (next : Int), e = .returned (.tuple #[.slice ag gs.length cg, .slice al (logOf gs).length cl, .slice ae gs.length ce, .bool true]) ∧ CInv w w' gs ag cg al cl ae ce next ∧ gs.length ≤ 20

theorem results_four {fn : Func} (h : fn.results = #[.tmp 2, .tmp 3, .tmp 4, .tmp 5]) (tmps : Array Value) (w : World) : (results fn tmps).run Try.prog w = .ok (.tuple #[tmps.getD 2 undef, tmps.getD 3 undef, tmps.getD 4 undef, tmps.getD 5 undef]) w := by
  simp only [results, h]
  simp [go_sem]

set_option maxHeartbeats 2000000 in
set_option maxRecDepth 100000 in
theorem chain_any (zs : List (Value × Int × List Chg)) (v : Value) (w : World) (hv : BatsR w v zs) (hb : ∀ z ∈ zs, z.2.2.length * 40 ≤ 140737488355328) :
    Calls Try.prog 29 #[v] w fun e w' => ChainEnd w e w' := by
  obtain ⟨a, cap, rfl, hcap, hm⟩ := hv.len
  have HV : Hid (BatsR w (.slice a zs.length cap) zs) := hv
  have HB : Hid (∀ z ∈ zs, z.2.2.length * 40 ≤ 140737488355328) := hb
  unfold maxLen at hm
  clear hv hb
  go_enter Try.func29, Try.ntmps29
  go_wp2_with fail
  go_loopw [10, 6, 7, 8, 9] (fun i g l e n wr => ∃ (k : Nat) (gs : List (Value × Int × List Chg)) (ag : Option Addr) (cg : Nat) (al : Option Addr) (cl : Nat) (ae : Option Addr) (ce : Nat) (next : Int), k ≤ zs.length ∧ k ≤ 20 ∧ i = .int .i64 k ∧ g = .slice ag gs.length cg ∧ l = .slice al (logOf gs).length cl ∧ e = .slice ae gs.length ce ∧ n = .int .i64 next ∧ Hid (gs.length ≤ k) ∧ Hid (CInv w wr gs ag cg al cl ae ce next)) (fun i _ _ _ _ _ => zs.length - (intOf i).toNat)
  case atStart => exact ⟨0, [], none, 0, none, 0, none, 0, 1, Nat.zero_le _, by omega, rfl, rfl, rfl, rfl, rfl, Nat.le_refl _, ⟨OwnR.nil _ _ _ _, (fun y hy => by cases hy), OwnB.nil _ _, OwnR.nil _ _ _ _, trivial, .inl rfl, by simp, Below.refl _ _, fun _ => ⟨rfl, rfl, rfl, rfl, rfl, rfl⟩⟩⟩
  case round =>
    obtain ⟨k, gs, ag, cg, al, cl, ae, ce, next, hk, hk2, rfl, rfl, rfl, rfl, rfl, HL, CI⟩ := hrel
    by_cases hlt : k < zs.length
    · have hlt' : (k : Int) < (zs.length : Int) := by omega
      by_cases h20 : k < 20
      · have h20' : (k : Int) < 20 := by omega
        obtain ⟨b, off, cap', ax, cx, sx, cs, e, q1, q2, hx, z0, z1, ox⟩ := (HV.out.up CI.out.up).at k hlt
        simp at e
        obtain ⟨rfl, rfl⟩ := e
        have oxw : ChgsR w (.slice ax cs.length cx) cs := HV.out.2 (.slice ax cs.length cx, sx, cs) (List.mem_of_getElem? hx)
        have hcb : cs.length * 40 ≤ 140737488355328 := HB.out (.slice ax cs.length cx, sx, cs) (List.mem_of_getElem? hx)
        have OX : Hid (ChgsR w (.slice ax cs.length cx) cs) := oxw
        have hpos := CI.out.pos
        have hgl := HL.out
        have hn1 : 1 ≤ next := hpos.1
        have hn2 : next ≤ 1281 := by omega
        have hn0 : (0 : Int) ≤ next := by omega
        clear hx ox oxw hpos
        have HADD : Hid (∀ (wx : World) (a' : Option Addr) (c' : Nat), checkOf next cs = 0 → Below wr.heap.size wr wx → ChgsR wx (.slice a' cs.length c') cs → Calls Try.prog 24 #[.slice al (logOf gs).length cl, .agg #[.int .i64 next, .slice a' cs.length c']] wx fun e w' => ∃ a1 n1 c1, e = .returned (.tuple #[.slice a1 n1 c1, .int .i64 0]) ∧ Hid (OwnB w' wx.heap.size (.slice a1 n1 c1) (logOf gs ++ frameOf 1 (encOf next cs))) ∧ Hid (Below wx.heap.size wx w')) := by
          intro wx a' c' hz hb hr
          refine add_good next cs a' c' (logOf gs) al cl wx hr (CI.out.octs.up hb) ?_ hz
          have hbd : (logOf gs).length ≤ 70000 * gs.length := CI.out.bound
          omega
        have HSN : Hid (∀ (wa w3 wb w4 : World) (a1 : Option Addr) (n1 c1 : Nat) (v3 v4 : Value), checkOf next cs = 0 → Below wr.heap.size wr wa → OwnB wa w.heap.size (.slice a1 n1 c1) (logOf gs ++ frameOf 1 (encOf next cs)) → OwnR w3 w.heap.size 24 2 v3 (gs.map brw ++ [[.int .i64 next, .slice ax cs.length cx]]) → wa.grownBy w3 (Value.slice ag gs.length cg).ownBlock → Below w3.heap.size w3 wb →
            OwnR w4 w.heap.size 3 1 v4 ((endsF ((gs.map (·.2)).map recOf)).map irow ++ [[.int .i64 (n1 : Int)]]) → wb.grownBy w4 (Value.slice ae gs.length ce).ownBlock →
            ∃ a3 c3 a4 c4, v3 = .slice a3 (gs.length + 1) c3 ∧ v4 = .slice a4 (gs.length + 1) c4 ∧ Hid (CInv w w4 (gs ++ [(.slice ax cs.length cx, next, cs)]) a3 c3 a1 c1 a4 c4 (next + (cs.length : Int)))) := fun wa w3 wb w4 a1 n1 c1 v3 v4 hz h1 h2 h3 h4 h5 h6 h7 => CI.out.snoc OX.out hz h1 h2 h3 h4 h5 h6 h7
        have HGO : Hid (∀ wb, Below wr.heap.size wr wb → OwnR wb w.heap.size 24 2 (.slice ag gs.length cg) (gs.map brw)) := fun wb hb => CI.out.good.up hb
        have HEO : Hid (∀ wa w3 wb, Below wr.heap.size wr wa → wa.grownBy w3 (Value.slice ag gs.length cg).ownBlock → Below w3.heap.size w3 wb → OwnR wb w.heap.size 3 1 (.slice ae gs.length ce) ((endsF ((gs.map (·.2)).map recOf)).map irow)) := fun wa w3 wb h1 h2 h3 => (OwnR.far (CI.out.ends.up h1) h2 (own_own_ne (CI.out.ends.up h1).2 (CI.out.good.up h1).2 (by decide))).up h3
        have HSZ : Hid (w.heap.size ≤ wr.heap.size) := CI.out.up.size
        have CU : Hid (∀ w', Below wr.heap.size wr w' → Hid (CInv w w' gs ag cg al cl ae ce next)) := fun w' h => CI.out.upw h
        have VU : Hid (∀ w', Below wr.heap.size wr w' → ChgsR w' (.slice ax cs.length cx) cs) := fun w' h => OX.out.up (up_trans CI.out.up h)
        generalize hlo : (logOf gs).length = nl at *
        go_wp2_with fail
        have D0 : Hid ((wr.alloc (.cells #[.int .i64 next, .slice ax cs.length cx] 24)).heap[wr.heap.size]? = some (.cells #[.int .i64 next, .slice ax cs.length cx] 24)) := blk_new _ _
        have U0 : Hid (Below wr.heap.size wr (wr.alloc (.cells #[.int .i64 next, .slice ax cs.length cx] 24))) := up_alloc _ _
        generalize wr.alloc (.cells #[.int .i64 next, .slice ax cs.length cx] 24) = wq at *
        refine (refCheck_any next cs ax cx _ (VU.out _ U0.out)).mono ?_
        rintro e w1 ⟨rfl, b1⟩
        have D1 : Hid (w1.heap[wr.heap.size]? = some (.cells #[.int .i64 next, .slice ax cs.length cx] 24)) := blk_up D0.out b1
        have U1 : Hid (Below wr.heap.size wr w1) := up_trans U0.out b1
        clear b1 D0 U0 CI z0 z1
        by_cases hz : checkOf next cs = 0
        · obtain ⟨_, ⟨_, h64⟩, _⟩ := checkOf_ok hz
          have HZ : Hid (checkOf next cs = 0) := hz
          rw [hz]
          clear hz
          have p0 : w1.cell? ⟨wr.heap.size, 0, none⟩ = some (.int .i64 next) := blk_cell D1.out 0 _ rfl
          have p1 : w1.cell? ⟨wr.heap.size, 1, none⟩ = some (.slice ax cs.length cx) := blk_cell D1.out 1 _ rfl
          go_wp2_with fail
          refine (of_any next cs ax cx w1 (VU.out _ U1.out) hcb).mono ?_
          rintro e w2 ⟨a', c', rfl, ho, b2⟩
          have D2 : Hid (w2.heap[wr.heap.size]? = some (.cells #[.int .i64 next, .slice ax cs.length cx] 24)) := blk_up D1.out b2
          have U2 : Hid (Below wr.heap.size wr w2) := up_trans U1.out b2
          have R2 : Hid (ChgsR w2 (.slice a' cs.length c') cs) := ho.read
          clear b2 ho D1 U1 p0 p1
          go_wp2_with fail
          refine (HADD.out w2 a' c' HZ.out U2.out R2.out).mono ?_
          rintro e w3 ⟨a1, n1, c1, rfl, O3, B3⟩
          have D3 : Hid (w3.heap[wr.heap.size]? = some (.cells #[.int .i64 next, .slice ax cs.length cx] 24)) := blk_up D2.out B3.out
          have U3 : Hid (Below wr.heap.size wr w3) := up_trans U2.out B3.out
          have O3' : Hid (OwnB w3 w.heap.size (.slice a1 n1 c1) (logOf gs ++ frameOf 1 (encOf next cs))) := OwnB.mono O3.out (Nat.le_trans HSZ.out U2.out.size)
          clear O3 B3 D2 U2 R2 HADD
          have p0 : w3.cell? ⟨wr.heap.size, 0, none⟩ = some (.int .i64 next) := blk_cell D3.out 0 _ rfl
          have p1 : w3.cell? ⟨wr.heap.size, 1, none⟩ = some (.slice ax cs.length cx) := blk_cell D3.out 1 _ rfl
          go_wp2_with fail
          refine (num_any _ _).mono ?_
          rintro e w4 ⟨rfl, rfl⟩
          have HRW : Hid (Rws 2 (w4.alloc (.cells #[.int .i64 next, .slice ax cs.length cx] 24)) (.slice (some ⟨w4.heap.size, 0, none⟩) 1 1) [[.int .i64 next, .slice ax cs.length cx]]) := Rws.made (sz := 2) w4 24 [[.int .i64 next, .slice ax cs.length cx]] (by simp) (by simp [maxLen])
          have H1 : Hid (∀ r ∈ [[Value.int .i64 next, .slice ax cs.length cx]], ∀ u ∈ r, u.oneCell' = true) := by
            intro r hr u hu
            simp at hr
            subst hr
            simp at hu
            rcases hu with rfl | rfl <;> rfl
          have UA : Hid (Below wr.heap.size wr (w4.alloc (.cells #[.int .i64 next, .slice ax cs.length cx] 24))) := up_al U3.out _
          have OA : Hid (OwnB (w4.alloc (.cells #[.int .i64 next, .slice ax cs.length cx] 24)) w.heap.size (.slice a1 n1 c1) (logOf gs ++ frameOf 1 (encOf next cs))) := own_up O3'.out (up_alloc _ _)
          have hgm : gs.length ≤ 20 := by omega
          go_wp2_with (at_builtin; refine wpList_append_rows _ rfl _ _ 56 24 _ 2 32 rfl Try.underlying56 Try.info24 rfl (by decide) w.heap.size _ (gs.map brw) rfl (HGO.out _ UA.out) _ _ rfl HRW.out H1.out ?c1 ?c2 ?c3 ?_)
          case c1 => rw [List.length_map]; simp; omega
          case c2 => rw [List.length_map]; simp [maxLen]; omega
          case c3 => exact Nat.le_trans HSZ.out UA.out.size
          intro v5 w5 o5 g5
          have O5 : Hid (OwnR w5 w.heap.size 24 2 v5 (gs.map brw ++ [[.int .i64 next, .slice ax cs.length cx]])) := o5
          have G5 : Hid ((w4.alloc (.cells #[.int .i64 next, .slice ax cs.length cx] 24)).grownBy w5 (Value.slice ag gs.length cg).ownBlock) := g5
          obtain ⟨a5, n5, c5, e5⟩ := OwnR.shape o5
          have HRI : Hid (Rws 1 (w5.alloc (.cells #[.int .i64 (n1 : Int)] 3)) (.slice (some ⟨w5.heap.size, 0, none⟩) 1 1) [[.int .i64 (n1 : Int)]]) := Rws.made (sz := 1) w5 3 [[.int .i64 (n1 : Int)]] (by simp) (by simp [maxLen])
          have H1i : Hid (∀ r ∈ [[Value.int .i64 (n1 : Int)]], ∀ u ∈ r, u.oneCell' = true) := by
            intro r hr u hu
            simp at hr
            subst hr
            simp at hu
            subst hu
            rfl
          have U5 : Hid (Below w5.heap.size w5 (w5.alloc (.cells #[.int .i64 (n1 : Int)] 3))) := up_alloc _ _
          have SZ5 : Hid (w.heap.size ≤ (w5.alloc (.cells #[.int .i64 (n1 : Int)] 3)).heap.size) := Nat.le_trans HSZ.out (Nat.le_trans UA.out.size (Nat.le_trans g5.size U5.out.size))
          have LE : Hid (((endsF ((gs.map (·.2)).map recOf)).map irow).length = gs.length) := by unfold Hid; simp [endsF]
          subst e5
          clear o5 g5 p0 p1 HRW H1 HGO
          go_wp2_with (at_builtin; refine wpList_append_rows _ rfl _ _ 61 3 _ 1 8 rfl Try.underlying61 Try.info3 rfl (by decide) w.heap.size (.slice ae gs.length ce) ((endsF ((gs.map (·.2)).map recOf)).map irow) rfl (HEO.out _ _ _ UA.out G5.out U5.out) (.slice (some ⟨w5.heap.size, 0, none⟩) 1 1) _ rfl HRI.out H1i.out ?d1 ?d2 SZ5.out ?_)
          case d1 => rw [LE.out]; simp; omega
          case d2 => rw [LE.out]; simp [maxLen]; omega
          intro v6 w6 o6 g6
          have o6' : OwnR w6 w.heap.size 3 1 v6 ((endsF ((gs.map (fun y => y.2)).map recOf)).map irow ++ [[.int .i64 (n1 : Int)]]) := by rw [List.map_map]; exact o6
          obtain ⟨a3, c3, a4, c4, q3, q4, C6⟩ := HSN.out _ _ _ _ _ _ _ _ _ HZ.out UA.out OA.out O5.out G5.out U5.out o6' g6
          have hn1l : n1 = (logOf (gs ++ [(.slice ax cs.length cx, next, cs)])).length := by
            obtain ⟨x, y, e, _⟩ := own_len C6.out.log
            obtain ⟨x', y', e', _⟩ := own_len O3'.out
            simp only [Value.slice.injEq] at e e'
            rw [e'.2.1]
            simp [logOf, catF_append, catF, recOf]
          subst q4
          simp only [Value.slice.injEq] at q3
          obtain ⟨rfl, rfl, rfl⟩ := q3
          clear o6 o6' g6 HSN HEO CU VU HRI H1i U5 O5 G5 UA OA
          go_wp2
          exact ⟨⟨k + 1, _, _, _, _, _, _, _, _, hlt, by omega, by go_num, by simp, by rw [hn1l], by simp, rfl, by unfold Hid; simp; omega, C6⟩, by simp [intOf]; omega⟩
        · have hz1 : (checkOf next cs == 0) = false := by simp [hz]
          have hz2 : (checkOf next cs != 0) = true := by simp [hz]
          have CN := CU.out w1 U1.out
          clear HADD HSN HGO HEO CU VU
          go_wp2
          exact ⟨⟨k + 1, gs, _, _, _, _, _, _, next, hlt, by omega, by go_num, rfl, by rw [hlo], rfl, rfl, by unfold Hid; omega, CN⟩, by simp [intOf]; omega⟩
      · have h20' : ¬ (k : Int) < 20 := by omega
        have hgl := HL.out
        go_wp2
        refine bodyPost_ret (results_four rfl _ _) rfl ?_
        exact ⟨gs, ag, cg, al, cl, ae, ce, next, rfl, CI.out, by omega⟩
    · have hlt' : ¬ (k : Int) < (zs.length : Int) := by omega
      have hgl := HL.out
      go_wp2
      refine bodyPost_ret (results_four rfl _ _) rfl ?_
      exact ⟨gs, ag, cg, al, cl, ae, ce, next, rfl, CI.out, by omega⟩
end Go.Proofs.Ytgphkddcfcmaiaa
