/- The law WalRot: the arguments, the walk, and the law; no conditions. -/
import Derived.Test.YtgphkddcfcmaiaaWArg
import Derived.Test.YtgphkddcfcmaiaaWChain
import Derived.Test.YtgphkddcfcmaiaaWRepl
import Derived.Test.YtgphkddcfcmaiaaGRep
import Derived.Test.YtgphkddcfcmaiaaRows
import Derived.WalkKit
import Derived.ProofKit
import Derived.OpenShut
import Derived.ShutString
import Derived.ChangeOld
import Derived.Below
import Derived.SizedLaws

/- Slices of batches that were handed in. -/
namespace Go.Proofs.Ytgphkddcfcmaiaa
open Go.ChangeShapes Go.WideShapes Go.ChangeAt Go.RowKit SumPlain
set_option linter.unusedVariables false

set_option maxRecDepth 100000 in
theorem arg_batches {H : Type} {enc : TypeId × Value → H} {W : World} {a : Option Addr} {len cap : Nat} {d : DataW H} {ps : List MemPlace}
    (h : DataW.Trod enc Try.prog W 0 (fun _ => true) true 56 (.slice a len cap) d ps) (hw : ∀ n ∈ d.weights Try.prog 56, n ≤ reachBytes) : ∃ zs : List (Value × Int × List Chg), BatsR W (.slice a len cap) zs ∧ ∀ z ∈ zs, z.2.2.length * 40 ≤ 140737488355328 := by
  obtain ⟨fuel, hf⟩ := h
  rcases DataW.trod_slice Try.underlying56 hf with ⟨hcs, hx⟩ | ⟨x, len', cap', elems, rest, n, _, hcs, hx, hb, hl, hm, hlen, hel, _, _⟩
  · simp [Value.cells] at hcs
    obtain ⟨rfl, rfl, rfl⟩ := hcs
    exact ⟨[], ⟨Rws.nil 2 W, fun y hy => by cases hy⟩, fun z hz => by cases hz⟩
  · simp [Value.cells] at hcs
    obtain ⟨rfl, rfl, rfl⟩ := hcs
    simp only [Prod.mk.injEq] at hx
    rw [Try.cells24] at hel
    obtain ⟨m, _, hr, hq⟩ := rows_any (n := 2) (by decide) (W := W) (x := x) hl hm brow (fun _ => rfl) (fun y => ChgsR W y.1 y.2.2 ∧ y.2.2.length * 40 ≤ 140737488351232) (by
      intro i hi
      have e := hel i hi
      have hi2 : elems[i]? = some (elems[i]'(by omega)) := List.getElem?_eq_getElem (by omega)
      rw [hi2] at e
      cases hc : W.cells? 0 (x.add (i * 2)) 2 with
      | none => rw [hc] at e; simp at e
      | some cs =>
        rw [hc] at e
        simp only [Option.bind_some] at e
        obtain ⟨p, rfl, hp⟩ := open_batch e (by
          intro k hk
          refine hw k ?_
          rw [hx.1]
          simp only [DataW.weights, Try.underlying56, List.mem_cons, List.mem_append]
          exact .inr (.inl (weightsAll_mem (List.mem_map.2 ⟨_, List.getElem_mem (by omega : i < elems.length), rfl⟩) k hk)))
        exact ⟨p, rfl, hp⟩)
    exact ⟨m, ⟨hr, fun y hy => (hq y hy).1⟩, fun z hz => by have := (hq z hz).2; omega⟩
end Go.Proofs.Ytgphkddcfcmaiaa

/- The law WalRot, walked: a log with one octet that is another one tells a beginning of its batches. -/
namespace Go.Proofs.Ytgphkddcfcmaiaa
open Go.RowKit SumPlain
set_option linter.unusedVariables false

theorem place1 (a : Int) (N : Nat) (hN : N ≤ 1400000) (h0 : 0 < N) : ∃ p : Nat, (wrap64 (a.tmod (N : Int) + (N : Int))).tmod (N : Int) = (p : Int) ∧ p < N := by
  have h1 := Int.tmod_lt_of_pos a (show (0 : Int) < (N : Int) by omega)
  have h2 : -(N : Int) < a.tmod (N : Int) := Int.lt_tmod_of_pos a (show (0 : Int) < (N : Int) by omega)
  generalize a.tmod (N : Int) = q at *
  have e1 : wrap64 (q + (N : Int)) = q + (N : Int) := by unfold wrap64; omega
  rw [e1]
  have h3 := Int.tmod_lt_of_pos (q + (N : Int)) (show (0 : Int) < (N : Int) by omega)
  have h4 : 0 ≤ (q + (N : Int)).tmod (N : Int) := Int.tmod_nonneg _ (by omega)
  exact ⟨((q + (N : Int)).tmod (N : Int)).toNat, by omega, by omega⟩

theorem Row.take : ∀ {nx : Option Int} {gs : List (Int × List Chg)}, Row nx gs → ∀ k, Row nx (gs.take k)
  | nx, [], _, k => by simp [Row]
  | nx, g :: r, h, 0 => trivial
  | nx, g :: r, h, k + 1 => ⟨h.1, h.2.1, Row.take h.2.2 k⟩

theorem catF_ge : ∀ (gs : List (Int × List Chg)), gs.length ≤ (catF (gs.map recOf)).length
  | [] => by simp
  | g :: r => by
    have ih := catF_ge r
    have h := frame_len 1 (encOf g.1 g.2)
    have e : catF ((g :: r).map recOf) = frameOf 1 (encOf g.1 g.2) ++ catF (r.map recOf) := rfl
    rw [e, List.length_append, List.length_cons]
    omega

/-- Those that lie whole ahead of the place are told first. -/
theorem rot_pre (gs : List (Int × List Chg)) (hr : Row none gs) (K p : Nat) (z : Int) (hE : (catF ((gs.map recOf).take K)).length ≤ p) : ∃ rest, replOf 4 ((catF (gs.map recOf)).set p z) = (gs.take K).map tripB ++ rest := by
  have e : (catF (gs.map recOf)).set p z = catF ((gs.take K).map recOf) ++ (catF ((gs.map recOf).drop K)).set (p - (catF ((gs.map recOf).take K)).length) z := by
    have h1 : catF (gs.map recOf) = catF ((gs.map recOf).take K) ++ catF ((gs.map recOf).drop K) := by
      rw [← catF_append, List.take_append_drop]
    rw [h1, List.set_append_right _ _ hE, List.map_take]
  rw [e]
  unfold replOf
  refine replF_pre 4 (gs.take K) none _ _ (hr.take K) ?_
  have := catF_ge (gs.take K)
  rw [List.length_append]
  omega

set_option maxHeartbeats 2000000 in
set_option maxRecDepth 100000 in
theorem rot_walk (zs : List (Value × Int × List Chg)) (v : Value) (at_ bt : Int) (w : World) (hv : BatsR w v zs) (hb : ∀ z ∈ zs, z.2.2.length * 40 ≤ 140737488355328) (hbt : 0 ≤ bt ∧ bt ≤ 255) :
    Calls Try.prog 7 #[v, .int .i64 at_, .int .u8 bt] w fun e w' => e = .returned (.bool true) ∧ Below w.heap.size w w' := by
  obtain ⟨a, cap, rfl, _, _⟩ := hv.len
  have HC : Hid (Calls Try.prog 29 #[.slice a zs.length cap] w fun e w' => ChainEnd w e w') := chain_any zs _ w hv hb
  clear hv hb
  go_enter Try.func7, Try.ntmps7
  go_wp2_with fail
  refine HC.out.mono ?_
  rintro e w1 ⟨gs, ag, cg, al, cl, ae, ce, next, rfl, CI, hg20⟩
  by_cases hgn : gs = []
  · obtain ⟨rfl, rfl, rfl, rfl, rfl, rfl⟩ := CI.nz hgn
    subst hgn
    have U1 : Hid (Below w.heap.size w w1) := CI.up
    simp only [logOf, List.map_nil, catF, List.length_nil]
    clear CI HC
    go_wp2_with fail
    refine (alive_any _).mono ?_
    rintro e w2 ⟨rfl, b2⟩
    have U2 : Hid (Below w.heap.size w w2) := up_trans U1.out b2
    clear b2
    go_wp2
    go_ret
    exact ⟨rfl, U2.out⟩
  have hNb : (logOf gs).length ≤ 70000 * gs.length := CI.bound
  have hne : logOf gs ≠ [] := by
    intro e
    have h1 := catF_ge (gs.map (·.2))
    have h2 : (logOf gs).length = 0 := by rw [e]; rfl
    rw [List.length_map] at h1
    have h3 := List.length_pos_iff.2 hgn
    have h4 : (logOf gs).length = (catF ((gs.map (·.2)).map recOf)).length := rfl
    omega
  have hN0 : 0 < (logOf gs).length := List.length_pos_iff.2 hne
  have CIH : Hid (CInv w w1 gs ag cg al cl ae ce next) := CI
  obtain ⟨g5, c5, e5, _, _, hc5, hm5⟩ := own_form CI.log hne
  simp only [Value.slice.injEq] at e5
  obtain ⟨rfl, _, hcl⟩ := e5
  rw [← hcl] at hc5 hm5
  clear hcl c5
  obtain ⟨g7, o7, rfl, hc7, hm7⟩ : ∃ g7 o7, ag = some ⟨g7, o7, none⟩ ∧ gs.length ≤ cg ∧ cg ≤ maxLen := by
    obtain ⟨b', off', cap', e, h1, h2, _⟩ := (Rws.own CI.good).at 0 (by rw [List.length_map]; exact List.length_pos_iff.2 hgn)
    simp only [Value.slice.injEq] at e
    rw [List.length_map] at h1
    exact ⟨b', off', e.1, by rw [e.2.2]; exact h1, by rw [e.2.2]; exact h2⟩
  obtain ⟨g6, rfl, hc6, hm6⟩ : ∃ g6, ae = some ⟨g6, 0, none⟩ ∧ gs.length ≤ ce ∧ ce ≤ maxLen := by
    rcases CI.ends.2.2 with ⟨h1, h2⟩ | ⟨g, c', cur, h1, _, _, h2, h3, _⟩
    · exfalso
      simp [endsF] at h2
      exact hgn h2
    · simp only [Value.slice.injEq] at h1
      refine ⟨g, h1.1, ?_, by rw [h1.2.2]; exact h3⟩
      rw [h1.2.2]
      simpa [endsF] using h2
  obtain ⟨p, hp, hpN⟩ := place1 at_ (logOf gs).length (by omega) hN0
  unfold maxLen at hm5 hm6 hm7
  obtain ⟨yo, hyo⟩ : ∃ yo, (logOf gs)[p]? = some yo := ⟨_, List.getElem?_eq_getElem hpN⟩
  have U1 : Hid (Below w.heap.size w w1) := CI.up
  have hRow : Row none (gs.map (·.2)) := CI.row
  have hOct : ∀ y ∈ logOf gs, 0 ≤ y ∧ y ≤ 255 := CI.octs.1
  have hN14 : (logOf gs).length ≤ 1400000 := by omega
  have HRW1 : Hid (∀ wx, Below w1.heap.size w1 wx → Calls Try.prog 27 #[.slice (some ⟨g5, 0, none⟩) (logOf gs).length cl] wx fun e w' => ∃ (a : Option Addr) (c : Nat) (n : Int), e = .returned (.tuple #[.slice a gs.length c, .int .i64 n]) ∧ Hid (Below wx.heap.size wx w')) := by
    intro wx hx
    refine (refReplay_any (logOf gs) _ wx (CI.octs.up hx) (by omega)).mono ?_
    rintro e w' ⟨ys, a, c, rfl, h1, h2, h3⟩
    have hl : ys.length = gs.length := by
      have e1 := congrArg List.length h2
      rw [show replOf 5 (logOf gs) = (gs.map (·.2)).map tripB from replOf_all 5 _ hRow] at e1
      simpa using e1
    rw [hl]
    exact ⟨a, c, _, rfl, h3⟩
  clear CI HC
  by_cases hb0 : bt = 0
  · subst hb0
    generalize (logOf gs).length = NN at *
    have hNN : ¬ (NN : Int) = 0 := by omega
    have hNN2 : ((NN : Int) == 0) = false := by simp; omega
    go_wp2_with fail
    refine (alive_any _).mono ?_
    rintro e w2 ⟨rfl, b2⟩
    have U2 : Hid (Below w.heap.size w w2) := up_trans U1.out b2
    clear b2
    go_wp2
    go_ret
    exact ⟨rfl, U2.out⟩
  have hb1 : (bt == 0) = false := by simp [hb0]
  obtain ⟨zz, hzz⟩ : ∃ zz, zz = bits .xor .u8 yo bt := ⟨_, rfl⟩
  have hzo : 0 ≤ zz ∧ zz ≤ 255 := by rw [hzz]; exact xor_u8 _ _
  -- the log with the octet that is another one
  have HST : Hid (∀ wx, Below w1.heap.size w1 wx → wx.cell? ⟨g5, p, none⟩ = some (.int .u8 yo) ∧ wx.frozen? ⟨g5, p, none⟩ = false ∧ Octs (wx.setCell ⟨g5, p, none⟩ (.int .u8 zz)) (.slice (some ⟨g5, 0, none⟩) (logOf gs).length cl) ((logOf gs).set p zz) ∧
      BatsR (wx.setCell ⟨g5, p, none⟩ (.int .u8 zz)) (.slice (some ⟨g7, o7, none⟩) gs.length cg) gs ∧ (∀ i, i < gs.length → (wx.setCell ⟨g5, p, none⟩ (.int .u8 zz)).cell? ⟨g6, i, none⟩ = some (.int .i64 ((catF (((gs.map (·.2)).map recOf).take (i + 1))).length : Int))) ∧ Below w.heap.size w (wx.setCell ⟨g5, p, none⟩ (.int .u8 zz))) := by
    intro wx hx
    have C := CIH.out.upw hx
    have ho : wx.ownsRow w.heap.size 5 1 (.slice (some ⟨g5, 0, none⟩) (logOf gs).length cl) (logOf gs).length ((logOf gs).map (Value.int .u8)) := C.log
    have hc0 := ho.cellAt p (by omega)
    rw [List.getElem?_map, hyo] at hc0
    have hst := ho.stored p (.int .u8 zz)
    have hown : OwnB (wx.setCell ⟨g5, p, none⟩ (.int .u8 zz)) w.heap.size (.slice (some ⟨g5, 0, none⟩) (logOf gs).length cl) ((logOf gs).set p zz) := by
      unfold OwnB
      rw [List.length_set, List.map_set]
      exact hst.1
    have hg : wx.grownBy (wx.setCell ⟨g5, p, none⟩ (.int .u8 zz)) (Value.slice (some ⟨g5, 0, none⟩) (logOf gs).length cl).ownBlock := hst.2
    have hgood := OwnR.far C.good hg (own_own_ne C.good.2 ho (by decide))
    have hends := OwnR.far C.ends hg (own_own_ne C.ends.2 ho (by decide))
    have hup : Below w.heap.size w (wx.setCell ⟨g5, p, none⟩ (.int .u8 zz)) := C.up.grown hg C.up.size (fun j hj => (ho.lt j hj).1)
    have hO := Octs.own hown (fun y hy => by
      rcases List.mem_or_eq_of_mem_set hy with h | h
      · exact hOct y h
      · rw [h]; exact hzo)
    refine ⟨hc0, ho.frozenAt p, hO, ⟨Rws.own hgood, fun y hy => (C.chg y hy).up hup⟩, ?_, hup⟩
    intro i hi
    obtain ⟨b', off', cap', e, _, _, hc⟩ := (Rws.own hends).at i (by simp [endsF]; exact hi)
    simp only [Value.slice.injEq, Option.some.injEq, Addr.mk.injEq] at e
    obtain ⟨⟨rfl, rfl, _⟩, _, _⟩ := e
    have hgd : ((endsF ((gs.map (·.2)).map recOf)).map irow).getD i [] = irow (catF (((gs.map (·.2)).map recOf).take (i + 1))).length := by
      have := endsF_at ((gs.map (·.2)).map recOf) i (by rw [List.length_map, List.length_map]; exact hi)
      rw [List.getD_eq_getElem?_getD, List.getElem?_map, this]
      rfl
    rw [hgd] at hc
    have := hc 0 _ rfl
    simpa using this
  have HPRE : Hid (∀ K, (catF (((gs.map (·.2)).map recOf).take K)).length ≤ p → ∃ rest, replOf 4 ((logOf gs).set p zz) = ((gs.map (·.2)).take K).map tripB ++ rest) := fun K hK => rot_pre (gs.map (·.2)) hRow K p zz hK
  have hL2 : ((logOf gs).set p zz).length ≤ 140737488355328 := by rw [List.length_set]; omega
  have hlen2 : ((logOf gs).set p zz).length = (logOf gs).length := List.length_set
  generalize hLL : (logOf gs).set p zz = LL at *
  generalize hNN' : (logOf gs).length = NN at *
  have hNN : ¬ (NN : Int) = 0 := by omega
  have hNN2 : ((NN : Int) == 0) = false := by simp; omega
  have hpi : (p : Int) < (NN : Int) := by omega
  generalize hRS : (gs.map (·.2)).map recOf = RS at *
  clear hyo hRow hOct CIH hNb hne hLL hNN'
  go_wp2_with fail
  refine (alive_any _).mono ?_
  rintro e w2 ⟨rfl, b2⟩
  have B2 : Hid (Below w1.heap.size w1 w2) := b2
  clear b2
  go_wp2_with fail
  refine (HRW1.out w2 B2.out).mono ?_
  rintro e w3 ⟨a3, c3, n3, rfl, b3⟩
  obtain ⟨s0, s1, s2, s3, s4, s5⟩ := HST.out w3 (up_trans B2.out b3.out)
  have W2' : Hid (Octs (w3.setCell ⟨g5, p, none⟩ (.int .u8 zz)) (.slice (some ⟨g5, 0, none⟩) NN cl) LL) := s2
  have W3' : Hid (BatsR (w3.setCell ⟨g5, p, none⟩ (.int .u8 zz)) (.slice (some ⟨g7, o7, none⟩) gs.length cg) gs) := s3
  have W4' : Hid (∀ i, i < gs.length → (w3.setCell ⟨g5, p, none⟩ (.int .u8 zz)).cell? ⟨g6, i, none⟩ = some (.int .i64 ((catF (RS.take (i + 1))).length : Int))) := s4
  have W5' : Hid (Below w.heap.size w (w3.setCell ⟨g5, p, none⟩ (.int .u8 zz))) := s5
  clear s2 s3 s4 s5 b3 B2 HST HRW1
  rw [hzz] at W2' W3' W4' W5'
  go_wp2_with fail
  generalize w3.setCell ⟨g5, p, none⟩ (.int .u8 (bits .xor .u8 yo bt)) = W at *
  clear s0 s1
  go_loopw [13] (fun q wx => ∃ i : Nat, i ≤ gs.length ∧ q = .int .i64 (i : Int) ∧ Hid ((catF (RS.take i)).length ≤ p) ∧ wx = W) (fun q _ => gs.length - (intOf q).toNat)
  case atStart => exact ⟨0, Nat.zero_le _, rfl, by unfold Hid; simp [catF], rfl⟩
  case round =>
    obtain ⟨K, hi, rfl, HK, rfl⟩ := hrel
    by_cases hgo : K < gs.length ∧ (catF (RS.take (K + 1))).length ≤ p
    · obtain ⟨hil, hle⟩ := hgo
      have hil' : (K : Int) < (gs.length : Int) := by omega
      have y6 := W4'.out K hil
      have HK2 : Hid ((catF (RS.take (K + 1))).length ≤ p) := hle
      have hle' : (((catF (RS.take (K + 1))).length : Nat) : Int) ≤ (p : Int) := by omega
      generalize (catF (RS.take (K + 1))).length = EE at y6 hle' hle
      go_wp2_with fail
      exact ⟨⟨K + 1, hil, by go_num, HK2, trivial⟩, by simp [intOf]; omega⟩
    · have HX : Hid (((K : Int) < (gs.length : Int)) = False ∨ (((K : Int) < (gs.length : Int)) = True ∧ ∃ EE : Nat, wr.cell? ⟨g6, K, none⟩ = some (.int .i64 (EE : Int)) ∧ ¬ (EE : Int) ≤ (p : Int))) := by
        by_cases hil : K < gs.length
        · refine .inr ⟨by simp; omega, _, W4'.out K hil, ?_⟩
          intro h
          exact hgo ⟨hil, by omega⟩
        · exact .inl (by simp; omega)
      have HPK : Hid (∃ rest, replOf 4 LL = ((gs.map (·.2)).take K).map tripB ++ rest) := HPRE.out K HK.out
      clear hgo W4'
      have hKc : (K : Int) ≤ (cg : Int) := by omega
      rcases HX.out with hx1 | ⟨hx1, EE, y6, hx2⟩
      · go_wp2_with fail
        refine (replay_any LL _ _ W2'.out hL2).mono ?_
        rintro e w5 ⟨ys, a5, c5, rfl, Y1, Y2, Y3⟩
        have RY : Hid (BatsO 26 w5 _ (.slice a5 ys.length c5) ys) := Y1
        have EY : Hid (ys.map (·.2) = (replOf 4 LL).map pairB) := Y2
        have O5 : Hid (Octs w5 (.slice (some ⟨g5, 0, none⟩) NN cl) LL) := W2'.out.up Y3
        have B5 : Hid (Below wr.heap.size wr w5) := Y3
        clear Y1 Y2 Y3
        go_wp2_with fail
        refine (refReplay_any LL _ w5 O5.out hL2).mono ?_
        rintro e w6 ⟨ts, a6, c6, rfl, Z1, Z2, Z3⟩
        have T6 : Hid (BatsR w6 (.slice a6 ts.length c6) ts) := Z1.read
        have Y6 : Hid (BatsR w6 (.slice a5 ys.length c5) ys) := RY.out.read.up Z3
        have ET : Hid (ys.map (·.2) = ts.map (·.2)) := by unfold Hid; rw [EY.out, Z2, replOf_eq 4 5]
        have HG6 : Hid (BatsR w6 (.slice (some ⟨g7, o7, none⟩) gs.length cg) gs) := W3'.out.up (up_trans B5.out Z3)
        have U6 : Hid (Below w.heap.size w w6) := up_trans W5'.out (up_trans B5.out Z3)
        have hKy : K ≤ ys.length := by
          obtain ⟨rest, hpre⟩ := HPK.out
          have h := congrArg List.length EY.out
          rw [hpre] at h
          simp at h
          omega
        have EK : Hid ((ys.take K).map (·.2) = (gs.take K).map (·.2)) := by
          obtain ⟨rest, hpre⟩ := HPK.out
          unfold Hid
          rw [List.map_take, EY.out, hpre, List.map_append, trip_pair, List.take_append_of_le_length (by simp; omega), List.map_take, List.take_take, Nat.min_self]
        have hKy' : (K : Int) ≤ (ys.length : Int) := by omega
        have hKy2 : ¬ (ys.length : Int) < (K : Int) := by omega
        obtain ⟨hyc, hycm⟩ : ys.length ≤ c5 ∧ c5 ≤ 9223372036854775807 := by
          obtain ⟨x, z, e, h1, h2⟩ := Y6.out.len
          simp only [Value.slice.injEq] at e
          unfold maxLen at h2
          omega
        have hKc5 : (K : Int) ≤ (c5 : Int) := by omega
        clear Z1 Z2 Z3 O5 B5 RY EY
        rw [replOf_eq 4 5]
        generalize ((sizeR (replOf 5 LL) : Nat) : Int) = SZ
        cases a5 with
        | none =>
          have hc0 : c5 = 0 := by
            obtain ⟨_, x, z, e, _, _, h3, _⟩ := Y6.out.1
            simp only [Value.slice.injEq] at e
            rw [e.2.2]
            exact h3 e.1.symm
          subst hc0
          obtain rfl : K = 0 := by omega
          have hy0 : ys.length = 0 := by omega
          have BA : Hid (Below w6.heap.size w6 w6.drew) := up_dr (Below.refl _ _)
          have HS1 : Hid (∀ wx, Below w6.heap.size w6 wx → Calls Try.prog 28 #[.slice none 0 0, .slice a6 ts.length c6] wx fun e w' => e = .returned (.bool true) ∧ Hid (Below w6.heap.size w6 w')) := by
            intro wx hx
            have hY := Y6.out.up hx
            rw [hy0] at hY
            refine (sameAll_self ys ts _ _ wx hY (T6.out.up hx) ET.out).mono ?_
            rintro e w' ⟨rfl, hb⟩
            exact ⟨rfl, up_trans hx hb⟩
          have HS2 : Hid (∀ wx, Below w6.heap.size w6 wx → Calls Try.prog 28 #[.slice none 0 0, .slice (some ⟨g7, o7, none⟩) 0 cg] wx fun e w' => e = .returned (.bool true) ∧ Hid (Below w6.heap.size w6 w')) := by
            intro wx hx
            refine (sameAll_self (ys.take 0) (gs.take 0) _ _ wx (by have := (Y6.out.up hx).first 0 (by omega); exact this) ((HG6.out.up hx).first 0 hi) EK.out).mono ?_
            rintro e w' ⟨rfl, hb⟩
            exact ⟨rfl, up_trans hx hb⟩
          clear Y6 T6 ET EK HG6
          simp only [hy0]
          go_wp2_with fail
          go_region_held3 (fun _ => True) (trivial) (first
            | (go_at_call 28; with_reducible refine (HS1.out _ BA.out).mono ?_; rintro e w7 ⟨rfl, B7⟩)
            | (go_at_call 28; with_reducible refine (HS2.out _ B7.out).mono ?_; rintro e w8 ⟨rfl, B8⟩))
          all_goals
            go_wp2
            go_ret
            exact ⟨rfl, up_trans U6.out B8.out⟩
        | some xa =>
          have BA : Hid (Below w6.heap.size w6 w6.drew) := up_dr (Below.refl _ _)
          have HS1 : Hid (∀ wx, Below w6.heap.size w6 wx → Calls Try.prog 28 #[.slice (some xa) ys.length c5, .slice a6 ts.length c6] wx fun e w' => e = .returned (.bool true) ∧ Hid (Below w6.heap.size w6 w')) := by
            intro wx hx
            refine (sameAll_self ys ts _ _ wx (Y6.out.up hx) (T6.out.up hx) ET.out).mono ?_
            rintro e w' ⟨rfl, hb⟩
            exact ⟨rfl, up_trans hx hb⟩
          have HS2 : Hid (∀ wx, Below w6.heap.size w6 wx → Calls Try.prog 28 #[.slice (some xa) K c5, .slice (some ⟨g7, o7, none⟩) K cg] wx fun e w' => e = .returned (.bool true) ∧ Hid (Below w6.heap.size w6 w')) := by
            intro wx hx
            refine (sameAll_self (ys.take K) (gs.take K) _ _ wx ((Y6.out.up hx).first K hKy) ((HG6.out.up hx).first K hi) EK.out).mono ?_
            rintro e w' ⟨rfl, hb⟩
            exact ⟨rfl, up_trans hx hb⟩
          clear Y6 T6 ET EK HG6
          go_wp2_with fail
          go_region_held3 (fun _ => True) (trivial) (first
            | (go_at_call 28; with_reducible refine (HS1.out _ BA.out).mono ?_; rintro e w7 ⟨rfl, B7⟩)
            | (go_at_call 28; with_reducible refine (HS2.out _ B7.out).mono ?_; rintro e w8 ⟨rfl, B8⟩))
          all_goals
            go_wp2
            go_ret
            exact ⟨rfl, up_trans U6.out B8.out⟩
      · go_wp2_with fail
        refine (replay_any LL _ _ W2'.out hL2).mono ?_
        rintro e w5 ⟨ys, a5, c5, rfl, Y1, Y2, Y3⟩
        have RY : Hid (BatsO 26 w5 _ (.slice a5 ys.length c5) ys) := Y1
        have EY : Hid (ys.map (·.2) = (replOf 4 LL).map pairB) := Y2
        have O5 : Hid (Octs w5 (.slice (some ⟨g5, 0, none⟩) NN cl) LL) := W2'.out.up Y3
        have B5 : Hid (Below wr.heap.size wr w5) := Y3
        clear Y1 Y2 Y3
        go_wp2_with fail
        refine (refReplay_any LL _ w5 O5.out hL2).mono ?_
        rintro e w6 ⟨ts, a6, c6, rfl, Z1, Z2, Z3⟩
        have T6 : Hid (BatsR w6 (.slice a6 ts.length c6) ts) := Z1.read
        have Y6 : Hid (BatsR w6 (.slice a5 ys.length c5) ys) := RY.out.read.up Z3
        have ET : Hid (ys.map (·.2) = ts.map (·.2)) := by unfold Hid; rw [EY.out, Z2, replOf_eq 4 5]
        have HG6 : Hid (BatsR w6 (.slice (some ⟨g7, o7, none⟩) gs.length cg) gs) := W3'.out.up (up_trans B5.out Z3)
        have U6 : Hid (Below w.heap.size w w6) := up_trans W5'.out (up_trans B5.out Z3)
        have hKy : K ≤ ys.length := by
          obtain ⟨rest, hpre⟩ := HPK.out
          have h := congrArg List.length EY.out
          rw [hpre] at h
          simp at h
          omega
        have EK : Hid ((ys.take K).map (·.2) = (gs.take K).map (·.2)) := by
          obtain ⟨rest, hpre⟩ := HPK.out
          unfold Hid
          rw [List.map_take, EY.out, hpre, List.map_append, trip_pair, List.take_append_of_le_length (by simp; omega), List.map_take, List.take_take, Nat.min_self]
        have hKy' : (K : Int) ≤ (ys.length : Int) := by omega
        have hKy2 : ¬ (ys.length : Int) < (K : Int) := by omega
        obtain ⟨hyc, hycm⟩ : ys.length ≤ c5 ∧ c5 ≤ 9223372036854775807 := by
          obtain ⟨x, z, e, h1, h2⟩ := Y6.out.len
          simp only [Value.slice.injEq] at e
          unfold maxLen at h2
          omega
        have hKc5 : (K : Int) ≤ (c5 : Int) := by omega
        clear Z1 Z2 Z3 O5 B5 RY EY
        rw [replOf_eq 4 5]
        generalize ((sizeR (replOf 5 LL) : Nat) : Int) = SZ
        cases a5 with
        | none =>
          have hc0 : c5 = 0 := by
            obtain ⟨_, x, z, e, _, _, h3, _⟩ := Y6.out.1
            simp only [Value.slice.injEq] at e
            rw [e.2.2]
            exact h3 e.1.symm
          subst hc0
          obtain rfl : K = 0 := by omega
          have hy0 : ys.length = 0 := by omega
          have BA : Hid (Below w6.heap.size w6 w6.drew) := up_dr (Below.refl _ _)
          have HS1 : Hid (∀ wx, Below w6.heap.size w6 wx → Calls Try.prog 28 #[.slice none 0 0, .slice a6 ts.length c6] wx fun e w' => e = .returned (.bool true) ∧ Hid (Below w6.heap.size w6 w')) := by
            intro wx hx
            have hY := Y6.out.up hx
            rw [hy0] at hY
            refine (sameAll_self ys ts _ _ wx hY (T6.out.up hx) ET.out).mono ?_
            rintro e w' ⟨rfl, hb⟩
            exact ⟨rfl, up_trans hx hb⟩
          have HS2 : Hid (∀ wx, Below w6.heap.size w6 wx → Calls Try.prog 28 #[.slice none 0 0, .slice (some ⟨g7, o7, none⟩) 0 cg] wx fun e w' => e = .returned (.bool true) ∧ Hid (Below w6.heap.size w6 w')) := by
            intro wx hx
            refine (sameAll_self (ys.take 0) (gs.take 0) _ _ wx (by have := (Y6.out.up hx).first 0 (by omega); exact this) ((HG6.out.up hx).first 0 hi) EK.out).mono ?_
            rintro e w' ⟨rfl, hb⟩
            exact ⟨rfl, up_trans hx hb⟩
          clear Y6 T6 ET EK HG6
          simp only [hy0]
          go_wp2_with fail
          go_region_held3 (fun _ => True) (trivial) (first
            | (go_at_call 28; with_reducible refine (HS1.out _ BA.out).mono ?_; rintro e w7 ⟨rfl, B7⟩)
            | (go_at_call 28; with_reducible refine (HS2.out _ B7.out).mono ?_; rintro e w8 ⟨rfl, B8⟩))
          all_goals
            go_wp2
            go_ret
            exact ⟨rfl, up_trans U6.out B8.out⟩
        | some xa =>
          have BA : Hid (Below w6.heap.size w6 w6.drew) := up_dr (Below.refl _ _)
          have HS1 : Hid (∀ wx, Below w6.heap.size w6 wx → Calls Try.prog 28 #[.slice (some xa) ys.length c5, .slice a6 ts.length c6] wx fun e w' => e = .returned (.bool true) ∧ Hid (Below w6.heap.size w6 w')) := by
            intro wx hx
            refine (sameAll_self ys ts _ _ wx (Y6.out.up hx) (T6.out.up hx) ET.out).mono ?_
            rintro e w' ⟨rfl, hb⟩
            exact ⟨rfl, up_trans hx hb⟩
          have HS2 : Hid (∀ wx, Below w6.heap.size w6 wx → Calls Try.prog 28 #[.slice (some xa) K c5, .slice (some ⟨g7, o7, none⟩) K cg] wx fun e w' => e = .returned (.bool true) ∧ Hid (Below w6.heap.size w6 w')) := by
            intro wx hx
            refine (sameAll_self (ys.take K) (gs.take K) _ _ wx ((Y6.out.up hx).first K hKy) ((HG6.out.up hx).first K hi) EK.out).mono ?_
            rintro e w' ⟨rfl, hb⟩
            exact ⟨rfl, up_trans hx hb⟩
          clear Y6 T6 ET EK HG6
          go_wp2_with fail
          go_region_held3 (fun _ => True) (trivial) (first
            | (go_at_call 28; with_reducible refine (HS1.out _ BA.out).mono ?_; rintro e w7 ⟨rfl, B7⟩)
            | (go_at_call 28; with_reducible refine (HS2.out _ B7.out).mono ?_; rintro e w8 ⟨rfl, B8⟩))
          all_goals
            go_wp2
            go_ret
            exact ⟨rfl, up_trans U6.out B8.out⟩
end Go.Proofs.Ytgphkddcfcmaiaa

/- The law WalRot holds: for every list of batches, every place and every octet the Go function returns true, and what was handed in reads as before; no conditions. -/
namespace Go.Proofs.Ytgphkddcfcmaiaa.walRot
open Go.ChangeShapes Go.WideShapes Go.ChangeAt Go.RowKit
open Go.ChangeMaps (open_string shut_string)
set_option linter.unusedVariables false

theorem own : ownKnob Try.prog.godebug = none := by kernel_rfl
theorem laidOut : laidOutB Try.prog = true := by kernel_rfl

set_option maxRecDepth 100000 in
theorem lifted (os : Os) (started : os.Started) (H : Type) (enc : TypeId × Value → H) :
    ReturnsInHanded {} Try.checked os 7 .any (Rows.walRotSpec.pre6 enc Try.prog Try.f7 Rows.walRotRow.domain false) (Rows.walRotSpec.post enc Try.prog Try.f7 false true false false) := by
  refine returnsInHanded_of_change_sized (C := Try.checked) own started (by kernel_rfl) Try.func7
    (ChangeSpec.witness6 (enc := enc) (C := Try.checked) false ⟨#[], #[.slice none 0 0, .int .i64 0, .int .u8 0], []⟩ 8 (by kernel_rfl) (by kernel_rfl) (by kernel_rfl) (by kernel_rfl)) ?_
  intro W base args ds gs before hval0 hW hcnd hsz0 _
  have hsz : (DataW.weightsEach Try.prog (Try.f7.params.toList ++ Rows.walRotSpec.plain.varTypes Try.prog) (ds ++ gs)).all (· ≤ reachBytes) = true := hsz0
  have hval : ∀ (j : Nat) t v, Try.f7.params[j]? = some t → args[j]? = some v → Value.okWide Try.prog W .any base t v := hval0
  have hW' := hW
  obtain ⟨p, q, hA0, hV, rfl, hfz, hnd⟩ := hW
  have hA : DataW.TrodAll enc Try.prog W 0 (fun _ => true) true Try.f7.params.toList args.toList ds p := hA0
  rw [Try.params7] at hA hval hsz
  obtain ⟨v0, vs0, d0, ds0, p0, q0, hargs, rfl, rfl, h0, r0⟩ := trodAll_cons hA
  obtain ⟨v1, vs1, d1, ds1, p1, q1, rfl, rfl, rfl, h1, r1⟩ := trodAll_cons r0
  obtain ⟨v2, vs2, d2, ds2, p2, q2, rfl, rfl, rfl, h2, r2⟩ := trodAll_cons r1
  obtain ⟨rfl, rfl, rfl⟩ := trodAll_nil r2
  obtain rfl : args = #[v0, v1, v2] := by cases args; simp_all
  obtain ⟨rfl, rfl⟩ := trodVars_none hV
  obtain ⟨a0, len0, cap0, rfl⟩ := okWide_slice Try.underlying56 (hval 0 56 v0 rfl rfl)
  have k0 := h0
  have lt0 : ∀ x ∈ p0, x.block < W.heap.size := by obtain ⟨m, hm⟩ := k0; exact DataW.trod_lt m _ _ _ hm
  obtain ⟨l0, w0, b0⟩ := arg_batches h0 (fun m hm => by simpa using List.all_eq_true.1 hsz m (DataW.weights_mem_each (j := 0) (t := 56) rfl rfl m hm))
  obtain ⟨a1, rfl, rfl, rfl, w1⟩ := open_int Try.underlying3 (hval 1 3 v1 rfl rfl) h1
  obtain ⟨a2, rfl, rfl, rfl, w2⟩ := open_int Try.underlying5 (hval 2 5 v2 rfl rfl) h2
  clear hA0 hval0
  refine (rot_walk l0 _ a1 a2 W w0 b0 (by have := w2; simp [Lit.wf, IntKind.min, IntKind.max, IntKind.signed, IntKind.bits] at this; omega)).mono fun e W' ⟨he, bel⟩ => ?_
  subst he
  exact ⟨_, rfl, _, _, _, [], _, [], hW', trodAll_mk1 (shut_bool Try.underlying4 _), (trodAll_cons_mk (Below.trod laidOut (by kernel_rfl) (of_decide_eq_true (by kernel_rfl)) k0 bel lt0) (trodAll_cons_mk (shut_int Try.underlying3 w1) (trodAll_cons_mk (shut_int Try.underlying5 w2) trodAll_mk0))), rfl, bel.frame _, fun h => by cases h⟩

theorem over : Rows.walRotRow.holds Try.pinned (OpenSpec.ofChange Rows.walRotSpec) :=
  OpenClaim.holds_of_wide 7 Try.f7 rfl rfl rfl rfl rfl rfl rfl ⟨rfl, rfl, rfl, rfl, rfl⟩ rfl rfl rfl rfl rfl (by kernel_rfl) Try.func7 (by kernel_rfl)
    (of_decide_eq_true (by kernel_rfl)) (by unfold Func.isWrapper; first | (rw [if_pos (by decide +kernel)]; kernel_rfl) | (rw [if_neg (by decide +kernel)]; exact ⟨rfl, rfl⟩))
    (fun os started H enc _ => lifted os started H enc)
end Go.Proofs.Ytgphkddcfcmaiaa.walRot

namespace Go.Proofs.Ytgphkddcfcmaiaa
theorem walRot_holds : Rows.WalRotSaid := walRot.over
#print axioms walRot_holds
end Go.Proofs.Ytgphkddcfcmaiaa
