/- The law WalLogs holds: for every log and every batch the Go function returns true, and what was handed in reads as before; no conditions. -/
import Derived.Test.YtgphkddcfcmaiaaWLaw
import Derived.Test.YtgphkddcfcmaiaaWRep
import Derived.Test.YtgphkddcfcmaiaaWRefChk
import Derived.Test.YtgphkddcfcmaiaaWAdd
import Derived.Test.YtgphkddcfcmaiaaGRep
import Derived.Test.YtgphkddcfcmaiaaGEnc
import Derived.Test.YtgphkddcfcmaiaaRows
import Derived.Test.YtgphkddcfcmaiaaWArg
import Derived.WalkKit
import Derived.ProofKit
import Derived.OpenShut
import Derived.ShutString
import Derived.ChangeOld
import Derived.Below
import Derived.SizedLaws

/- Two batches alike; the example of the page. -/
namespace Go.Proofs.Ytgphkddcfcmaiaa
open Go.RowKit SumPlain
set_option linter.unusedVariables false

set_option maxHeartbeats 1000000 in
theorem same_self (s : Int) (cs : List Chg) (v u : Value) (w : World) (hv : ChgsR w v cs) (hu : ChgsR w u cs) :
    Calls Try.prog 19 #[.agg #[.int .i64 s, v], .agg #[.int .i64 s, u]] w fun e w' => e = .returned (.bool true) ∧ Below w.heap.size w w' := by
  obtain ⟨a1, c1, rfl, _, _⟩ := hv.len
  obtain ⟨a2, c2, rfl, _, _⟩ := hu.len
  have HS : Hid (∀ o1 o2, Calls Try.prog 39 #[.slice a1 cs.length c1, .slice a2 cs.length c2] ((w.alloc o1).alloc o2) fun e w' => e = .returned (.bool true) ∧ ∃ d, w' = ((w.alloc o1).alloc o2).drewN d) := fun o1 o2 =>
    sameChgs_self cs _ _ _ (hv.up (up_al (up_alloc _ _) _)) (hu.up (up_al (up_alloc _ _) _))
  have U : Hid (∀ o1 o2 d, Below w.heap.size w (((w.alloc o1).alloc o2).drewN d)) := fun o1 o2 d => up_trans (up_al (up_alloc _ _) _) (up_drewN _ _)
  clear hv hu
  go_enter Try.func19, Try.ntmps19
  go_wp2_with fail
  refine (HS.out _ _).mono ?_
  rintro e w1 ⟨rfl, d, rfl⟩
  go_wp2
  go_ret
  exact ⟨rfl, U.out _ _ _⟩

theorem enc_ax : encOf 1 [⟨⟨#[97]⟩, false, ⟨#[120]⟩⟩] = [1, 1, 1, 1, 97, 1, 120] := by decide +kernel

set_option maxHeartbeats 1000000 in
theorem alive_any (w : World) : Calls Try.prog 23 #[] w fun e w' => e = .returned (.bool true) ∧ Below w.heap.size w w' := by
  have hR : ChgsR (w.alloc (.cells #[.string ⟨#[97]⟩, .bool false, .string ⟨#[120]⟩] 67)) (.slice (some ⟨w.heap.size, 0, none⟩) 1 1) [⟨⟨#[97]⟩, false, ⟨#[120]⟩⟩] :=
    Rws.made (sz := 3) w 67 [[.string ⟨#[97]⟩, .bool false, .string ⟨#[120]⟩]] (by simp) (by simp [maxLen])
  have HP : Hid (Calls Try.prog 11 #[.agg #[.int .i64 1, .slice (some ⟨w.heap.size, 0, none⟩) 1 1]] (w.alloc (.cells #[.string ⟨#[97]⟩, .bool false, .string ⟨#[120]⟩] 67)) fun e w' => ∃ a n c, e = .returned (.tuple #[.slice a n c, .int .i64 0]) ∧ Hid ((convert 25 9 (.slice a n c)).run Try.prog w' = .ok (.string (strOfNums [1, 1, 1, 1, 97, 1, 120])) w') ∧ Hid (Below w.heap.size w w')) := by
    refine (encode_good 1 [⟨⟨#[97]⟩, false, ⟨#[120]⟩⟩] _ 1 _ hR (by decide +kernel)).mono ?_
    rintro e w' ⟨a, n, c, rfl, ho, hb⟩
    have h1 := ho.out
    rw [enc_ax] at h1
    exact ⟨a, n, c, rfl, run_convert_octs _ _ _ (Octs.own h1 (by decide)), up_trans (up_alloc _ _) hb.out⟩
  have hS : (strOfNums [1, 1, 1, 1, 97, 1, 120]).toList = [1, 1, 1, 1, 97, 1, 120] := by rw [str_list]; decide
  clear hR
  go_enter Try.func23, Try.ntmps23
  go_wp2_with fail
  refine HP.out.mono ?_
  rintro e w1 ⟨a, n, c, rfl, hr, hb⟩
  have hr' := hr.out
  go_wp2_with fail
  refine (num_any _ _).mono ?_
  rintro e w2 ⟨rfl, rfl⟩
  go_wp2
  go_ret
  exact ⟨rfl, hb.out⟩
end Go.Proofs.Ytgphkddcfcmaiaa

/- The law's chain of batches as a log; lists of batches alike. -/
namespace Go.Proofs.Ytgphkddcfcmaiaa
open Go.RowKit SumPlain
set_option linter.unusedVariables false

/-- Batches are read as these. -/
def BatsR (w : World) (v : Value) (ys : List (Value × Int × List Chg)) : Prop := Rws 2 w v (ys.map brw) ∧ ∀ y ∈ ys, ChgsR w y.1 y.2.2
theorem BatsR.up {w w' : World} {v : Value} {ys : List (Value × Int × List Chg)} (h : BatsR w v ys) (hb : Below w.heap.size w w') : BatsR w' v ys := ⟨h.1.up hb, fun y hy => (h.2 y hy).up hb⟩
theorem BatsO.read {t : TypeId} {w : World} {base : Nat} {v : Value} {ys : List (Value × Int × List Chg)} (h : BatsO t w base v ys) : BatsR w v ys := ⟨Rws.own h.1, fun y hy => (h.2 y hy).read⟩
theorem BatsR.len {w : World} {v : Value} {ys : List (Value × Int × List Chg)} (h : BatsR w v ys) : ∃ a cap, v = .slice a ys.length cap ∧ ys.length ≤ cap ∧ cap ≤ maxLen := by
  obtain ⟨a, cap, e, h1, h2⟩ := h.1.len
  rw [List.length_map] at e h1
  exact ⟨a, cap, e, h1, h2⟩
theorem BatsR.at {w : World} {v : Value} {ys : List (Value × Int × List Chg)} (h : BatsR w v ys) (k : Nat) (hk : k < ys.length) :
    ∃ b off cap a c s cs, v = .slice (some ⟨b, off, none⟩) ys.length cap ∧ ys.length ≤ cap ∧ cap ≤ maxLen ∧ ys[k]? = some (.slice a cs.length c, s, cs) ∧ w.cell? ⟨b, off + k * 2, none⟩ = some (.int .i64 s) ∧ w.cell? ⟨b, off + k * 2 + 1, none⟩ = some (.slice a cs.length c) ∧ ChgsR w (.slice a cs.length c) cs := by
  obtain ⟨b, off, cap, e, h1, h2, hc⟩ := h.1.at k (by rw [List.length_map]; exact hk)
  rw [List.length_map] at e h1
  obtain ⟨y, hy⟩ : ∃ y, ys[k]? = some y := ⟨_, List.getElem?_eq_getElem hk⟩
  have hg : (ys.map brw).getD k [] = brw y := by simp [List.getD, hy]
  rw [hg] at hc
  have hr := h.2 y (List.mem_of_getElem? hy)
  obtain ⟨yv, s, cs⟩ := y
  simp only at hr
  obtain ⟨a, c, rfl, _, _⟩ := hr.len
  exact ⟨b, off, cap, a, c, s, cs, e, h1, h2, hy, hc 0 _ rfl, hc 1 _ rfl, hr⟩
theorem BatsR.first {w : World} {a : Option Addr} {m cap : Nat} {ys : List (Value × Int × List Chg)} (h : BatsR w (.slice a m cap) ys) (n : Nat) (hn : n ≤ ys.length) : BatsR w (.slice a n cap) (ys.take n) := by
  refine ⟨?_, fun y hy => h.2 y (List.mem_of_mem_take hy)⟩
  have := h.1.first n (by rw [List.length_map]; exact hn)
  rw [List.map_take]
  exact this

set_option maxHeartbeats 1000000 in
theorem sameAll_self (xs ys : List (Value × Int × List Chg)) (v u : Value) (w : World) (hv : BatsR w v xs) (hu : BatsR w u ys) (he : xs.map (·.2) = ys.map (·.2)) :
    Calls Try.prog 28 #[v, u] w fun e w' => e = .returned (.bool true) ∧ Below w.heap.size w w' := by
  have HV : Hid (BatsR w v xs ∧ BatsR w u ys) := ⟨hv, hu⟩
  have HE : Hid (xs.map (·.2) = ys.map (·.2)) := he
  have hlen : ys.length = xs.length := by
    have := congrArg List.length he
    simpa using this.symm
  obtain ⟨a1, c1, e1, _, m1⟩ := hv.len
  obtain ⟨a2, c2, e2, _, m2⟩ := hu.len
  rw [hlen] at e2
  have HL : Hid (ys.length = xs.length) := hlen
  subst e1
  subst e2
  have hl63 : xs.length ≤ 9223372036854775807 := by unfold maxLen at m1; omega
  clear hv hu he hlen m2
  go_enter Try.func28, Try.ntmps28
  go_wp2_with fail
  go_loopw [5] (fun i wr => ∃ k : Nat, k ≤ xs.length ∧ i = .int .i64 k ∧ Hid (Below w.heap.size w wr)) (fun i _ => xs.length - (intOf i).toNat)
  case atStart => exact ⟨0, Nat.zero_le _, rfl, Below.refl _ _⟩
  case round =>
    obtain ⟨k, hk, rfl, up⟩ := hrel
    by_cases hlt : k < xs.length
    · have hlt' : (k : Int) < (xs.length : Int) := by omega
      obtain ⟨b, off, cap, ax, cx, sx, csx, e, _, _, hx, z0, z1, ox⟩ := (HV.out.1.up up.out).at k hlt
      obtain ⟨b', off', cap', ay, cy, sy, csy, e', _, _, hy, y0, y1, oy⟩ := (HV.out.2.up up.out).at k (by rw [HL.out]; exact hlt)
      have hxy : sx = sy ∧ csx = csy := by
        have h := congrArg (·[k]?) HE.out
        simp only [List.getElem?_map, hx, hy, Option.map_some] at h
        simpa using h
      simp at e e'
      obtain ⟨rfl, rfl⟩ := e
      obtain ⟨rfl, hh, rfl⟩ := e'
      clear hh
      obtain ⟨rfl, rfl⟩ := hxy
      have HC : Hid (Calls Try.prog 19 #[.agg #[.int .i64 sx, .slice ax csx.length cx], .agg #[.int .i64 sx, .slice ay csx.length cy]] wr.drew fun e w' => e = .returned (.bool true) ∧ w'.cell? ⟨b, off + k * 2, none⟩ = some (.int .i64 sx) ∧ w'.cell? ⟨b, off + k * 2 + 1, none⟩ = some (.slice ax csx.length cx) ∧ w'.cell? ⟨b', off' + k * 2, none⟩ = some (.int .i64 sx) ∧ w'.cell? ⟨b', off' + k * 2 + 1, none⟩ = some (.slice ay csx.length cy) ∧ Hid (Below w.heap.size w w')) := by
        refine (same_self sx csx _ _ _ (ox.up (up_dr (Below.refl _ _))) (oy.up (up_dr (Below.refl _ _)))).mono ?_
        rintro e w' ⟨rfl, hb⟩
        have hb2 : Below wr.heap.size wr w' := up_trans (up_dr (Below.refl _ _)) hb
        have lt : ∀ {bb o : Nat} {q : Value}, wr.cell? ⟨bb, o, none⟩ = some q → w'.cell? ⟨bb, o, none⟩ = some q := fun hq => (hb2.cell (World.block_lt_of_cell? wr _ hq)).trans hq
        exact ⟨rfl, lt z0, lt z1, lt y0, lt y1, up_trans up.out hb2⟩
      clear hx hy ox oy
      go_wp2_with fail
      go_region_held3 (fun w' => w'.cell? ⟨b, off + k * 2, none⟩ = some (.int .i64 sx) ∧ w'.cell? ⟨b, off + k * 2 + 1, none⟩ = some (.slice ax csx.length cx) ∧ w'.cell? ⟨b', off' + k * 2, none⟩ = some (.int .i64 sx) ∧ w'.cell? ⟨b', off' + k * 2 + 1, none⟩ = some (.slice ay csx.length cy)) (first | with_reducible exact ⟨q0, q1, q2, q3⟩ | with_reducible exact ⟨z0, z1, y0, y1⟩ | (simp [go_sem, z0, z1, y0, y1]; done)) (first
        | (go_at_call 19; with_reducible refine HC.out.mono ?_; rintro e w' ⟨rfl, q0, q1, q2, q3, hb⟩))
      all_goals
        go_wp2_with fail
        exact ⟨⟨k + 1, by omega, by go_num, hb⟩, by simp [intOf]; omega⟩
    · have hlt' : ¬ (k : Int) < (xs.length : Int) := by omega
      go_wp2_with fail
      go_ret
      exact ⟨rfl, up.out⟩

/-! ### the chain -/
/-- The number behind the last. -/
def nextOf : Option Int → List (Int × List Chg) → Option Int
  | nx, [] => nx
  | _, g :: r => nextOf (some (g.1 + (g.2.length : Int))) r
theorem nextOf_snoc : ∀ (nx : Option Int) (gs : List (Int × List Chg)) (g : Int × List Chg), nextOf nx (gs ++ [g]) = some (g.1 + (g.2.length : Int))
  | nx, [], g => rfl
  | nx, a :: r, g => nextOf_snoc _ r g
theorem Row.snoc : ∀ {nx : Option Int} {gs : List (Int × List Chg)}, Row nx gs → ∀ {g : Int × List Chg}, (nextOf nx gs = none ∨ nextOf nx gs = some g.1) → checkOf g.1 g.2 = 0 → Row nx (gs ++ [g])
  | nx, [], _, g, h, hc => ⟨h, hc, trivial⟩
  | nx, a :: r, hr, g, h, hc => ⟨hr.1, hr.2.1, Row.snoc hr.2.2 h hc⟩
theorem endsF_snoc (gs : List (Int × List Int)) (g : Int × List Int) : endsF (gs ++ [g]) = endsF gs ++ [(catF (gs ++ [g])).length] := by
  unfold endsF
  rw [List.length_append, List.length_singleton, List.range_succ, List.map_append]
  congr 1
  · refine List.map_congr_left fun i hi => ?_
    have : i < gs.length := List.mem_range.1 hi
    rw [List.take_append_of_le_length (by omega)]
  · simp only [List.map_cons, List.map_nil]
    rw [show gs.length + 1 = (gs ++ [g]).length by simp, List.take_length]
theorem catF_snoc (gs : List (Int × List Int)) (g : Int × List Int) : catF (gs ++ [g]) = catF gs ++ frameOf g.1 g.2 := by
  rw [catF_append]
  simp [catF]

theorem Try.info3 : (Try.prog.info? 3).map (fun i => (i.zero, i.size, i.bytes)) = some (some (.int .i64 0), 1, 8) := by kernel_rfl

def irow (n : Nat) : List Value := [.int .i64 (n : Int)]

structure CInv (w wr : World) (gs : List (Value × Int × List Chg)) (ag : Option Addr) (cg : Nat) (al : Option Addr) (cl : Nat) (ae : Option Addr) (ce : Nat) (next : Int) : Prop where
  good : OwnR wr w.heap.size 24 2 (.slice ag gs.length cg) (gs.map brw)
  chg : ∀ y ∈ gs, ChgsR w y.1 y.2.2
  log : OwnB wr w.heap.size (.slice al (catF ((gs.map (·.2)).map recOf)).length cl) (catF ((gs.map (·.2)).map recOf))
  ends : OwnR wr w.heap.size 3 1 (.slice ae gs.length ce) ((endsF ((gs.map (·.2)).map recOf)).map irow)
  row : Row none (gs.map (·.2))
  nxt : nextOf none (gs.map (·.2)) = none ∨ nextOf none (gs.map (·.2)) = some next
  pos : 1 ≤ next ∧ next ≤ 1 + 64 * (gs.length : Int)
  up : Below w.heap.size w wr
  nz : gs = [] → al = none ∧ cl = 0 ∧ ag = none ∧ cg = 0 ∧ ae = none ∧ ce = 0

theorem CInv.upw {w wr w' : World} {gs : List (Value × Int × List Chg)} {ag : Option Addr} {cg : Nat} {al : Option Addr} {cl : Nat} {ae : Option Addr} {ce : Nat} {next : Int} (h : CInv w wr gs ag cg al cl ae ce next) (hb : Below wr.heap.size wr w') : CInv w w' gs ag cg al cl ae ce next :=
  ⟨h.good.up hb, h.chg, own_up h.log hb, h.ends.up hb, h.row, h.nxt, h.pos, up_trans h.up hb, h.nz⟩
theorem CInv.bound {w wr : World} {gs : List (Value × Int × List Chg)} {ag : Option Addr} {cg : Nat} {al : Option Addr} {cl : Nat} {ae : Option Addr} {ce : Nat} {next : Int} (h : CInv w wr gs ag cg al cl ae ce next) : (catF ((gs.map (·.2)).map recOf)).length ≤ 70000 * gs.length := by
  have := catF_len _ h.row.okRec
  simpa using this
theorem CInv.octs {w wr : World} {gs : List (Value × Int × List Chg)} {ag : Option Addr} {cg : Nat} {al : Option Addr} {cl : Nat} {ae : Option Addr} {ce : Nat} {next : Int} (h : CInv w wr gs ag cg al cl ae ce next) : Octs wr (.slice al (catF ((gs.map (·.2)).map recOf)).length cl) (catF ((gs.map (·.2)).map recOf)) := Octs.own h.log (catF_octet _ h.row.okRec)

/-- One more batch. -/
theorem CInv.snoc {w wr wa w3 wb w4 : World} {gs : List (Value × Int × List Chg)} {ag : Option Addr} {cg : Nat} {al : Option Addr} {cl : Nat} {ae : Option Addr} {ce : Nat} {next : Int} (h : CInv w wr gs ag cg al cl ae ce next)
    {av : Value} {cs : List Chg} (hr : ChgsR w av cs) (hc : checkOf next cs = 0) (hua : Below wr.heap.size wr wa) {a1 : Option Addr} {n1 c1 : Nat} (hl : OwnB wa w.heap.size (.slice a1 n1 c1) (catF ((gs.map (·.2)).map recOf) ++ frameOf 1 (encOf next cs)))
    {v3 : Value} (ho3 : OwnR w3 w.heap.size 24 2 v3 (gs.map brw ++ [[.int .i64 next, av]])) (hg3 : wa.grownBy w3 (Value.slice ag gs.length cg).ownBlock) (hub : Below w3.heap.size w3 wb)
    {v4 : Value} (ho4 : OwnR w4 w.heap.size 3 1 v4 ((endsF ((gs.map (·.2)).map recOf)).map irow ++ [[.int .i64 (n1 : Int)]])) (hg4 : wb.grownBy w4 (Value.slice ae gs.length ce).ownBlock) :
    ∃ a3 c3 a4 c4, v3 = .slice a3 (gs.length + 1) c3 ∧ v4 = .slice a4 (gs.length + 1) c4 ∧ CInv w w4 (gs ++ [(av, next, cs)]) a3 c3 a1 c1 a4 c4 (next + (cs.length : Int)) := by
  have e0 : (gs ++ [(av, next, cs)]).map (·.2) = gs.map (·.2) ++ [(next, cs)] := by simp
  have e1 : ((gs ++ [(av, next, cs)]).map (·.2)).map recOf = (gs.map (·.2)).map recOf ++ [(1, encOf next cs)] := by rw [e0, List.map_append]; rfl
  have eL : (gs ++ [(av, next, cs)]).length = gs.length + 1 := by simp
  have eC : catF (((gs ++ [(av, next, cs)]).map (·.2)).map recOf) = catF ((gs.map (·.2)).map recOf) ++ frameOf 1 (encOf next cs) := by rw [e1, catF_snoc]
  have hn1 : n1 = (catF (((gs ++ [(av, next, cs)]).map (·.2)).map recOf)).length := by
    obtain ⟨x, y, e, _⟩ := own_len hl
    simp only [Value.slice.injEq] at e
    rw [eC]
    exact e.2.1
  obtain ⟨a3, c3, q3, _⟩ := (Rws.own ho3).len
  have l3 : (gs.map brw ++ [[Value.int .i64 next, av]]).length = gs.length + 1 := by simp
  rw [l3] at q3
  obtain ⟨a4, c4, q4, _⟩ := (Rws.own ho4).len
  have l4 : ((endsF ((gs.map (fun y => y.2)).map recOf)).map irow ++ [[Value.int .i64 (n1 : Int)]]).length = gs.length + 1 := by simp [endsF]
  rw [l4] at q4
  have hgood3 := h.good.up hua
  have hends3 : OwnR w3 w.heap.size 3 1 (.slice ae gs.length ce) ((endsF ((gs.map (·.2)).map recOf)).map irow) := OwnR.far (h.ends.up hua) hg3 (own_own_ne (h.ends.up hua).2 hgood3.2 (by decide))
  have hlog3 : OwnB w3 w.heap.size (.slice a1 n1 c1) (catF ((gs.map (·.2)).map recOf) ++ frameOf 1 (encOf next cs)) := World.ownsRow.kept hl hg3 (own_own_ne hl hgood3.2 (by decide))
  have hends4 := hends3.up hub
  have hu := up_trans h.up hua
  have hu3 : Below w.heap.size w w3 := hu.grown hg3 hu.size (fun k hk => (hgood3.2.lt k hk).1)
  have hub' := up_trans hu3 hub
  have hu4 : Below w.heap.size w w4 := hub'.grown hg4 hub'.size (fun k hk => (hends4.2.lt k hk).1)
  have hgood4 : OwnR w4 w.heap.size 24 2 v3 (gs.map brw ++ [[.int .i64 next, av]]) := OwnR.far (ho3.up hub) hg4 (own_own_ne (ho3.up hub).2 hends4.2 (by decide))
  have hlog4 : OwnB w4 w.heap.size (.slice a1 n1 c1) (catF ((gs.map (·.2)).map recOf) ++ frameOf 1 (encOf next cs)) := World.ownsRow.kept (own_up hlog3 hub) hg4 (own_own_ne (own_up hlog3 hub) hends4.2 (by decide))
  refine ⟨a3, c3, a4, c4, q3, q4, ?_⟩
  obtain ⟨k1, k2, _⟩ := checkOf_ok hc
  refine ⟨?_, ?_, ?_, ?_, ?_, ?_, ?_, hu4, fun e => by simp at e⟩
  · rw [eL, List.map_append, ← q3]
    exact hgood4
  · intro y hy
    rcases List.mem_append.1 hy with q | q
    · exact h.chg y q
    · simp at q
      subst q
      exact hr
  · rw [← hn1, eC]
    exact hlog4
  · rw [eL, e1, endsF_snoc, ← q4, List.map_append]
    rw [← e1, ← hn1]
    exact ho4
  · rw [e0]
    exact h.row.snoc h.nxt hc
  · right
    rw [e0, nextOf_snoc]
  · have := h.pos
    rw [eL]
    constructor
    · omega
    · push_cast; omega
end Go.Proofs.Ytgphkddcfcmaiaa

/- The law WalLogs, walked: a batch added to any log, and any log replayed, are as the page says. -/
namespace Go.Proofs.Ytgphkddcfcmaiaa
open Go.RowKit SumPlain
set_option linter.unusedVariables false

set_option maxHeartbeats 2000000 in
set_option maxRecDepth 100000 in
theorem logs_walk (l : List Int) (al : Option Addr) (cl : Nat) (s : Int) (cs : List Chg) (a : Option Addr) (c : Nat) (w : World) (hl : Octs w (.slice al l.length cl) l) (hlb : l.length ≤ 140737488355328) (hv : ChgsR w (.slice a cs.length c) cs) (hcb : cs.length * 40 ≤ 140737488355328) :
    Calls Try.prog 4 #[.slice al l.length cl, .agg #[.int .i64 s, .slice a cs.length c]] w fun e w' => e = .returned (.bool true) ∧ Below w.heap.size w w' := by
  have HV : Hid (ChgsR w (.slice a cs.length c) cs) := hv
  have HLo : Hid (Octs w (.slice al l.length cl) l) := hl
  have HC10 : Hid (∀ o, Calls Try.prog 10 #[.slice al l.length cl] (w.alloc o) fun e w' => ∃ v', e = .returned v' ∧ OwnB w' (w.alloc o).heap.size v' l ∧ Below (w.alloc o).heap.size (w.alloc o) w') := fun o => copy_any l _ _ (hl.up (up_alloc w o)) hlb
  clear hv hl
  go_enter Try.func4, Try.ntmps4
  go_wp2_with fail
  refine (HC10.out _).mono ?_
  rintro e w1 ⟨v1, rfl, o1, b1⟩
  obtain ⟨a1, c1, rfl, _⟩ := own_len o1
  have D1 : Hid (w1.heap[w.heap.size]? = some (.cells #[.int .i64 s, .slice a cs.length c] 24)) := blk_up (blk_new w _) b1
  have U1 : Hid (Below w.heap.size w w1) := up_trans (up_alloc w _) b1
  have C1 : Hid (Octs w1 (.slice a1 l.length c1) l) := Octs.own o1 HLo.out.1
  clear o1 b1 HC10
  have z0 : w1.cell? ⟨w.heap.size, 0, none⟩ = some (.int .i64 s) := blk_cell D1.out 0 _ rfl
  have z1 : w1.cell? ⟨w.heap.size, 1, none⟩ = some (.slice a cs.length c) := blk_cell D1.out 1 _ rfl
  go_wp2_with fail
  refine (of_any s cs a c w1 (HV.out.up U1.out) hcb).mono ?_
  rintro e w2 ⟨a2, c2, rfl, o2, b2⟩
  have D2 : Hid (w2.heap[w.heap.size]? = some (.cells #[.int .i64 s, .slice a cs.length c] 24)) := blk_up D1.out b2
  have U2 : Hid (Below w.heap.size w w2) := up_trans U1.out b2
  have C2 : Hid (Octs w2 (.slice a1 l.length c1) l) := C1.out.up b2
  have R2 : Hid (ChgsR w2 (.slice a2 cs.length c2) cs) := o2.read
  clear o2 b2 D1 U1 C1 z0 z1
  go_wp2_with fail
  by_cases hz : checkOf s cs = 0
  · refine (add_good s cs a2 c2 l a1 c1 w2 R2.out C2.out hlb hz).mono ?_
    rintro e w3 ⟨ap, np, cp, rfl, P3, B3⟩
    have HPX : Hid (∀ y ∈ l ++ frameOf 1 (encOf s cs), 0 ≤ y ∧ y ≤ 255) := by
      intro y hy
      rcases List.mem_append.1 hy with q | q
      · exact HLo.out.1 y q
      · exact frame_octs s cs hz y q
    have D3 : Hid (w3.heap[w.heap.size]? = some (.cells #[.int .i64 s, .slice a cs.length c] 24)) := blk_up D2.out B3.out
    have U3 : Hid (Below w.heap.size w w3) := up_trans U2.out B3.out
    have P3' : Hid (Octs w3 (.slice ap np cp) (l ++ frameOf 1 (encOf s cs))) := Octs.own P3.out HPX.out
    have C3 : Hid (Octs w3 (.slice a1 l.length c1) l) := C2.out.up B3.out
    clear P3 B3 D2 U2 C2 R2
    have z0 : w3.cell? ⟨w.heap.size, 0, none⟩ = some (.int .i64 s) := blk_cell D3.out 0 _ rfl
    have z1 : w3.cell? ⟨w.heap.size, 1, none⟩ = some (.slice a cs.length c) := blk_cell D3.out 1 _ rfl
    go_wp2_with fail
    refine (refAdd_good s cs a c l al cl w3 (HV.out.up U3.out) (HLo.out.up U3.out) hlb hz).mono ?_
    rintro e w4 ⟨aq, nq, cq, rfl, Q4', B4⟩
    have U4 : Hid (Below w.heap.size w w4) := up_trans U3.out B4.out
    have P4 : Hid (Octs w4 (.slice ap np cp) (l ++ frameOf 1 (encOf s cs))) := P3'.out.up B4.out
    have Q4 : Hid (Octs w4 (.slice aq nq cq) (l ++ frameOf 1 (encOf s cs))) := Octs.own Q4'.out HPX.out
    have HC4 : Hid (Octs w4 (.slice a1 l.length c1) l) := C3.out.up B4.out
    generalize l ++ frameOf 1 (encOf s cs) = P at *
    clear Q4' B4 P3' C3 D3 U3 z0 z1 hz
    go_wp2_with fail
    refine (replay_any l _ w4 (HC4.out) hlb).mono ?_
    rintro e w5 ⟨ys, a5, c5, rfl, Y1, Y2, Y3⟩
    have RY : Hid (BatsO 26 w5 w4.heap.size (.slice a5 ys.length c5) ys) := Y1
    have EY : Hid (ys.map (·.2) = (replOf 4 l).map pairB) := Y2
    have U5 : Hid (Below w.heap.size w w5) := up_trans U4.out Y3
    have P5 : Hid (Octs w5 (.slice ap np cp) P) := P4.out.up Y3
    have Q5 : Hid (Octs w5 (.slice aq nq cq) P) := Q4.out.up Y3
    have C5 : Hid (Octs w5 (.slice a1 l.length c1) l) := HC4.out.up Y3
    clear Y1 Y2 Y3 P4 Q4 HC4 U4
    go_wp2_with fail
    refine (refReplay_any l _ w5 (HLo.out.up U5.out) hlb).mono ?_
    rintro e w6 ⟨zs, a6, c6, rfl, Z1, Z2, Z3⟩
    have RZ : Hid (BatsR w6 (.slice a6 zs.length c6) zs) := Z1.read
    have RY6 : Hid (BatsR w6 (.slice a5 ys.length c5) ys) := RY.out.read.up Z3
    have EZ : Hid (ys.map (·.2) = zs.map (·.2)) := by unfold Hid; rw [EY.out, Z2, replOf_eq 4 5]
    have U6 : Hid (Below w.heap.size w w6) := up_trans U5.out Z3
    have P6 : Hid (Octs w6 (.slice ap np cp) P) := P5.out.up Z3
    have Q6 : Hid (Octs w6 (.slice aq nq cq) P) := Q5.out.up Z3
    have C6 : Hid (Octs w6 (.slice a1 l.length c1) l) := C5.out.up Z3
    clear Z1 Z2 Z3 P5 Q5 C5 U5 RY EY
    rw [replOf_eq 4 5]
    generalize ((sizeR (replOf 5 l) : Nat) : Int) = SZ
    go_wp2_with fail
    refine (same_any _ _ _ _ _ P6.out Q6.out).mono ?_
    rintro e w7 ⟨rfl, rfl⟩
    rw [decide_eq_true rfl]
    go_wp2_with fail
    refine (num_any _ _).mono ?_
    rintro e w8 ⟨rfl, rfl⟩
    go_wp2_with fail
    refine (sameAll_self ys zs _ _ _ RY6.out RZ.out EZ.out).mono ?_
    rintro e w9 ⟨rfl, b9⟩
    have U9 : Hid (Below w.heap.size w w9) := up_trans U6.out b9
    have C9 : Hid (Octs w9 (.slice a1 l.length c1) l) := C6.out.up b9
    clear b9
    go_wp2_with fail
    refine (same_any _ _ _ _ _ C9.out (HLo.out.up U9.out)).mono ?_
    rintro e w10 ⟨rfl, rfl⟩
    rw [decide_eq_true rfl]
    go_wp2_with fail
    refine (alive_any _).mono ?_
    rintro e w11 ⟨rfl, b11⟩
    have U11 : Hid (Below w.heap.size w w11) := up_trans U9.out b11
    clear b11
    go_wp2
    go_ret
    exact ⟨rfl, U11.out⟩
  · refine (add_bad s cs a2 c2 a1 l.length c1 w2 R2.out hz).mono ?_
    rintro e w3 ⟨rfl, b3⟩
    have D3 : Hid (w3.heap[w.heap.size]? = some (.cells #[.int .i64 s, .slice a cs.length c] 24)) := blk_up D2.out b3
    have U3 : Hid (Below w.heap.size w w3) := up_trans U2.out b3
    have C3 : Hid (Octs w3 (.slice a1 l.length c1) l) := C2.out.up b3
    clear b3 D2 U2 C2 R2
    have z0 : w3.cell? ⟨w.heap.size, 0, none⟩ = some (.int .i64 s) := blk_cell D3.out 0 _ rfl
    have z1 : w3.cell? ⟨w.heap.size, 1, none⟩ = some (.slice a cs.length c) := blk_cell D3.out 1 _ rfl
    go_wp2_with fail
    refine (refAdd_bad s cs a c al l.length cl w3 (HV.out.up U3.out) hz).mono ?_
    rintro e w4 ⟨rfl, b4⟩
    have U4 : Hid (Below w.heap.size w w4) := up_trans U3.out b4
    have P4 : Hid (Octs w4 (.slice none 0 0) []) := ⟨by simp, .inl ⟨rfl, _, _, rfl, fun _ => rfl⟩⟩
    have Q4 : Hid (Octs w4 (.slice none 0 0) []) := ⟨by simp, .inl ⟨rfl, _, _, rfl, fun _ => rfl⟩⟩
    have HC4 : Hid (Octs w4 (.slice a1 l.length c1) l) := C3.out.up b4
    clear b4 C3 D3 U3 z0 z1
    go_wp2_with fail
    refine (replay_any l _ w4 (HC4.out) hlb).mono ?_
    rintro e w5 ⟨ys, a5, c5, rfl, Y1, Y2, Y3⟩
    have RY : Hid (BatsO 26 w5 w4.heap.size (.slice a5 ys.length c5) ys) := Y1
    have EY : Hid (ys.map (·.2) = (replOf 4 l).map pairB) := Y2
    have U5 : Hid (Below w.heap.size w w5) := up_trans U4.out Y3
    have P5 : Hid (Octs w5 (.slice none 0 0) []) := P4.out.up Y3
    have Q5 : Hid (Octs w5 (.slice none 0 0) []) := Q4.out.up Y3
    have C5 : Hid (Octs w5 (.slice a1 l.length c1) l) := HC4.out.up Y3
    clear Y1 Y2 Y3 P4 Q4 HC4 U4
    go_wp2_with fail
    refine (refReplay_any l _ w5 (HLo.out.up U5.out) hlb).mono ?_
    rintro e w6 ⟨zs, a6, c6, rfl, Z1, Z2, Z3⟩
    have RZ : Hid (BatsR w6 (.slice a6 zs.length c6) zs) := Z1.read
    have RY6 : Hid (BatsR w6 (.slice a5 ys.length c5) ys) := RY.out.read.up Z3
    have EZ : Hid (ys.map (·.2) = zs.map (·.2)) := by unfold Hid; rw [EY.out, Z2, replOf_eq 4 5]
    have U6 : Hid (Below w.heap.size w w6) := up_trans U5.out Z3
    have P6 : Hid (Octs w6 (.slice none 0 0) []) := P5.out.up Z3
    have Q6 : Hid (Octs w6 (.slice none 0 0) []) := Q5.out.up Z3
    have C6 : Hid (Octs w6 (.slice a1 l.length c1) l) := C5.out.up Z3
    clear Z1 Z2 Z3 P5 Q5 C5 U5 RY EY
    rw [replOf_eq 4 5]
    generalize ((sizeR (replOf 5 l) : Nat) : Int) = SZ
    go_wp2_with fail
    refine (same_any _ _ _ _ _ P6.out Q6.out).mono ?_
    rintro e w7 ⟨rfl, rfl⟩
    rw [decide_eq_true rfl]
    go_wp2_with fail
    refine (num_any _ _).mono ?_
    rintro e w8 ⟨rfl, rfl⟩
    go_wp2_with fail
    refine (sameAll_self ys zs _ _ _ RY6.out RZ.out EZ.out).mono ?_
    rintro e w9 ⟨rfl, b9⟩
    have U9 : Hid (Below w.heap.size w w9) := up_trans U6.out b9
    have C9 : Hid (Octs w9 (.slice a1 l.length c1) l) := C6.out.up b9
    clear b9
    go_wp2_with fail
    refine (same_any _ _ _ _ _ C9.out (HLo.out.up U9.out)).mono ?_
    rintro e w10 ⟨rfl, rfl⟩
    rw [decide_eq_true rfl]
    go_wp2_with fail
    refine (alive_any _).mono ?_
    rintro e w11 ⟨rfl, b11⟩
    have U11 : Hid (Below w.heap.size w w11) := up_trans U9.out b11
    clear b11
    go_wp2
    go_ret
    exact ⟨by first | rfl | simp, U11.out⟩
end Go.Proofs.Ytgphkddcfcmaiaa

/- The law WalLogs holds: for every log and every batch the Go function returns true, and what was handed in reads as before; no conditions. -/
namespace Go.Proofs.Ytgphkddcfcmaiaa.walLogs
open Go.ChangeShapes Go.WideShapes Go.ChangeAt Go.RowKit
open Go.ChangeMaps (open_string shut_string)
set_option linter.unusedVariables false

theorem own : ownKnob Try.prog.godebug = none := by kernel_rfl
theorem laidOut : laidOutB Try.prog = true := by kernel_rfl

set_option maxRecDepth 100000 in
theorem lifted (os : Os) (started : os.Started) (H : Type) (enc : TypeId × Value → H) :
    ReturnsInHanded {} Try.checked os 4 .any (Rows.walLogsSpec.pre6 enc Try.prog Try.f4 Rows.walLogsRow.domain false) (Rows.walLogsSpec.post enc Try.prog Try.f4 false true false false) := by
  refine returnsInHanded_of_change_sized (C := Try.checked) own started (by kernel_rfl) Try.func4
    (ChangeSpec.witness6 (enc := enc) (C := Try.checked) false ⟨#[], #[.slice none 0 0, .agg #[.int .i64 0, .slice none 0 0]], []⟩ 8 (by kernel_rfl) (by kernel_rfl) (by kernel_rfl) (by kernel_rfl)) ?_
  intro W base args ds gs before hval0 hW hcnd hsz0 _
  have hsz : (DataW.weightsEach Try.prog (Try.f4.params.toList ++ Rows.walLogsSpec.plain.varTypes Try.prog) (ds ++ gs)).all (· ≤ reachBytes) = true := hsz0
  have hval : ∀ (j : Nat) t v, Try.f4.params[j]? = some t → args[j]? = some v → Value.okWide Try.prog W .any base t v := hval0
  have hW' := hW
  obtain ⟨p, q, hA0, hV, rfl, hfz, hnd⟩ := hW
  have hA : DataW.TrodAll enc Try.prog W 0 (fun _ => true) true Try.f4.params.toList args.toList ds p := hA0
  rw [Try.params4] at hA hval hsz
  obtain ⟨v0, vs0, d0, ds0, p0, q0, hargs, rfl, rfl, h0, r0⟩ := trodAll_cons hA
  obtain ⟨v1, vs1, d1, ds1, p1, q1, rfl, rfl, rfl, h1, r1⟩ := trodAll_cons r0
  obtain ⟨rfl, rfl, rfl⟩ := trodAll_nil r1
  obtain rfl : args = #[v0, v1] := by cases args; simp_all
  obtain ⟨rfl, rfl⟩ := trodVars_none hV
  obtain ⟨a0, len0, cap0, rfl⟩ := okWide_slice Try.underlying25 (hval 0 25 v0 rfl rfl)
  have k0 := h0
  have lt0 : ∀ x ∈ p0, x.block < W.heap.size := by obtain ⟨m, hm⟩ := k0; exact DataW.trod_lt m _ _ _ hm
  obtain ⟨l0, w0, b0⟩ : ∃ l, Octs W (.slice a0 len0 cap0) l ∧ l.length ≤ 140737488351232 := by
    obtain ⟨fuel, hf⟩ := h0
    rcases open_ints Try.underlying25 Try.underlying5 (by kernel_rfl) hf with ⟨hcs, _⟩ | ⟨x, l, c, zs, hcs, _, hl, hm, hz, hx, hcell, hwz⟩
    · simp [Value.cells] at hcs
      obtain ⟨rfl, rfl, rfl⟩ := hcs
      exact ⟨[], nil_octs W, by simp⟩
    · simp [Value.cells] at hcs
      obtain ⟨rfl, rfl, rfl⟩ := hcs
      simp only [Prod.mk.injEq] at hx
      obtain ⟨hd, _⟩ := hx
      subst hd
      have hz' : zs.length = cap0 := by simpa using hz
      have hb := sized_slice hsz (j := 0) (t := 25) (e := 5) rfl rfl Try.underlying25
      rw [Try.bytes5] at hb
      simp only [lits, List.length_map, List.length_take, List.length_drop, reachBytes] at hb
      refine ⟨zs.take len0, arg_octs hl hm hz' hcell hwz, ?_⟩
      rw [List.length_take]
      omega
  obtain rfl : len0 = l0.length := by obtain ⟨x, y, e, _, _⟩ := w0.len; simp only [Value.slice.injEq] at e; exact e.2.1
  obtain ⟨n1, a1, c1, l1, rfl, w1, b1⟩ := arg_batch (hval 1 24 v1 rfl rfl) h1 (fun m hm => by simpa using List.all_eq_true.1 hsz m (DataW.weights_mem_each (j := 1) (t := 24) rfl rfl m hm))
  have k1 := h1
  have lt1 : ∀ x ∈ p1, x.block < W.heap.size := by obtain ⟨m, hm⟩ := k1; exact DataW.trod_lt m _ _ _ hm
  clear hA0 hval0
  refine (logs_walk l0 a0 cap0 n1 l1 a1 c1 W w0 (by omega) w1 (by omega)).mono fun e W' ⟨he, bel⟩ => ?_
  subst he
  exact ⟨_, rfl, _, _, _, [], _, [], hW', trodAll_mk1 (shut_bool Try.underlying4 _), (trodAll_cons_mk (Below.trod laidOut (by kernel_rfl) (of_decide_eq_true (by kernel_rfl)) k0 bel lt0) (trodAll_cons_mk (Below.trod laidOut (by kernel_rfl) (of_decide_eq_true (by kernel_rfl)) k1 bel lt1) trodAll_mk0)), rfl, bel.frame _, fun h => by cases h⟩

theorem over : Rows.walLogsRow.holds Try.pinned (OpenSpec.ofChange Rows.walLogsSpec) :=
  OpenClaim.holds_of_wide 4 Try.f4 rfl rfl rfl rfl rfl rfl rfl ⟨rfl, rfl, rfl, rfl, rfl⟩ rfl rfl rfl rfl rfl (by kernel_rfl) Try.func4 (by kernel_rfl)
    (of_decide_eq_true (by kernel_rfl)) (by unfold Func.isWrapper; first | (rw [if_pos (by decide +kernel)]; kernel_rfl) | (rw [if_neg (by decide +kernel)]; exact ⟨rfl, rfl⟩))
    (fun os started H enc _ => lifted os started H enc)
end Go.Proofs.Ytgphkddcfcmaiaa.walLogs

namespace Go.Proofs.Ytgphkddcfcmaiaa
theorem walLogs_holds : Rows.WalLogsSaid := walLogs.over
#print axioms walLogs_holds
end Go.Proofs.Ytgphkddcfcmaiaa
