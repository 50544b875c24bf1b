/- The law's chain of batches as a log; lists of batches alike. -/
import Derived.Test.YtgphkddcfcmaiaaWRep
import Derived.Test.YtgphkddcfcmaiaaWSame
import Derived.Test.YtgphkddcfcmaiaaWRefChk
import Derived.Test.YtgphkddcfcmaiaaWAdd
namespace Go.Proofs.Ytgphkddcfcmaiaa
open Go.RowKit SumPlain
set_option linter.unusedVariables false

/-- Batches are read as these. -/
def BatsR (w : World) (v : Value) (ys : List (Value × Int × List Chg)) : Prop := Rws 2 w v (ys.map brw) ∧ ∀ y ∈ ys, ChgsR w y.1 y.2.2
theorem BatsR.up {w w' : World} {v : Value} {ys : List (Value × Int × List Chg)} (h : BatsR w v ys) (hb : Below w.heap.size w w') : BatsR w' v ys := ⟨h.1.up hb, fun y hy => (h.2 y hy).up hb⟩
theorem BatsO.read {t : TypeId} {w : World} {base : Nat} {v : Value} {ys : List (Value × Int × List Chg)} (h : BatsO t w base v ys) : BatsR w v ys := ⟨Rws.own h.1, fun y hy => (h.2 y hy).read⟩
theorem BatsR.len {w : World} {v : Value} {ys : List (Value × Int × List Chg)} (h : BatsR w v ys) : ∃ a cap, v = .slice a ys.length cap ∧ ys.length ≤ cap ∧ cap ≤ maxLen := by
  obtain ⟨a, cap, e, h1, h2⟩ := h.1.len
  rw [List.length_map] at e h1
  exact ⟨a, cap, e, h1, h2⟩
theorem BatsR.at {w : World} {v : Value} {ys : List (Value × Int × List Chg)} (h : BatsR w v ys) (k : Nat) (hk : k < ys.length) :
    ∃ b off cap a c s cs, v = .slice (some ⟨b, off, none⟩) ys.length cap ∧ ys.length ≤ cap ∧ cap ≤ maxLen ∧ ys[k]? = some (.slice a cs.length c, s, cs) ∧ w.cell? ⟨b, off + k * 2, none⟩ = some (.int .i64 s) ∧ w.cell? ⟨b, off + k * 2 + 1, none⟩ = some (.slice a cs.length c) ∧ ChgsR w (.slice a cs.length c) cs := by
  obtain ⟨b, off, cap, e, h1, h2, hc⟩ := h.1.at k (by rw [List.length_map]; exact hk)
  rw [List.length_map] at e h1
  obtain ⟨y, hy⟩ : ∃ y, ys[k]? = some y := ⟨_, List.getElem?_eq_getElem hk⟩
  have hg : (ys.map brw).getD k [] = brw y := by simp [List.getD, hy]
  rw [hg] at hc
  have hr := h.2 y (List.mem_of_getElem? hy)
  obtain ⟨yv, s, cs⟩ := y
  simp only at hr
  obtain ⟨a, c, rfl, _, _⟩ := hr.len
  exact ⟨b, off, cap, a, c, s, cs, e, h1, h2, hy, hc 0 _ rfl, hc 1 _ rfl, hr⟩
theorem BatsR.first {w : World} {a : Option Addr} {m cap : Nat} {ys : List (Value × Int × List Chg)} (h : BatsR w (.slice a m cap) ys) (n : Nat) (hn : n ≤ ys.length) : BatsR w (.slice a n cap) (ys.take n) := by
  refine ⟨?_, fun y hy => h.2 y (List.mem_of_mem_take hy)⟩
  have := h.1.first n (by rw [List.length_map]; exact hn)
  rw [List.map_take]
  exact this

set_option maxHeartbeats 1000000 in
theorem sameAll_self (xs ys : List (Value × Int × List Chg)) (v u : Value) (w : World) (hv : BatsR w v xs) (hu : BatsR w u ys) (he : xs.map (·.2) = ys.map (·.2)) :
    Calls Try.prog 28 #[v, u] w fun e w' => e = .returned (.bool true) ∧ Below w.heap.size w w' := by
  have HV : Hid (BatsR w v xs ∧ BatsR w u ys) := ⟨hv, hu⟩
  have HE : Hid (xs.map (·.2) = ys.map (·.2)) := he
  have hlen : ys.length = xs.length := by
    have := congrArg List.length he
    simpa using this.symm
  obtain ⟨a1, c1, e1, _, m1⟩ := hv.len
  obtain ⟨a2, c2, e2, _, m2⟩ := hu.len
  rw [hlen] at e2
  have HL : Hid (ys.length = xs.length) := hlen
  subst e1
  subst e2
  have hl63 : xs.length ≤ 9223372036854775807 := by unfold maxLen at m1; omega
  clear hv hu he hlen m2
  go_enter Try.func28, Try.ntmps28
  go_wp2_with fail
  go_loopw [5] (fun i wr => ∃ k : Nat, k ≤ xs.length ∧ i = .int .i64 k ∧ Hid (Below w.heap.size w wr)) (fun i _ => xs.length - (intOf i).toNat)
  case atStart => exact ⟨0, Nat.zero_le _, rfl, Below.refl _ _⟩
  case round =>
    obtain ⟨k, hk, rfl, up⟩ := hrel
    by_cases hlt : k < xs.length
    · have hlt' : (k : Int) < (xs.length : Int) := by omega
      obtain ⟨b, off, cap, ax, cx, sx, csx, e, _, _, hx, z0, z1, ox⟩ := (HV.out.1.up up.out).at k hlt
      obtain ⟨b', off', cap', ay, cy, sy, csy, e', _, _, hy, y0, y1, oy⟩ := (HV.out.2.up up.out).at k (by rw [HL.out]; exact hlt)
      have hxy : sx = sy ∧ csx = csy := by
        have h := congrArg (·[k]?) HE.out
        simp only [List.getElem?_map, hx, hy, Option.map_some] at h
        simpa using h
      simp at e e'
      obtain ⟨rfl, rfl⟩ := e
      obtain ⟨rfl, hh, rfl⟩ := e'
      clear hh
      obtain ⟨rfl, rfl⟩ := hxy
      have HC : Hid (Calls Try.prog 19 #[.agg #[.int .i64 sx, .slice ax csx.length cx], .agg #[.int .i64 sx, .slice ay csx.length cy]] wr.drew fun e w' => e = .returned (.bool true) ∧ w'.cell? ⟨b, off + k * 2, none⟩ = some (.int .i64 sx) ∧ w'.cell? ⟨b, off + k * 2 + 1, none⟩ = some (.slice ax csx.length cx) ∧ w'.cell? ⟨b', off' + k * 2, none⟩ = some (.int .i64 sx) ∧ w'.cell? ⟨b', off' + k * 2 + 1, none⟩ = some (.slice ay csx.length cy) ∧ Hid (Below w.heap.size w w')) := by
        refine (same_self sx csx _ _ _ (ox.up (up_dr (Below.refl _ _))) (oy.up (up_dr (Below.refl _ _)))).mono ?_
        rintro e w' ⟨rfl, hb⟩
        have hb2 : Below wr.heap.size wr w' := up_trans (up_dr (Below.refl _ _)) hb
        have lt : ∀ {bb o : Nat} {q : Value}, wr.cell? ⟨bb, o, none⟩ = some q → w'.cell? ⟨bb, o, none⟩ = some q := fun hq => (hb2.cell (World.block_lt_of_cell? wr _ hq)).trans hq
        exact ⟨rfl, lt z0, lt z1, lt y0, lt y1, up_trans up.out hb2⟩
      clear hx hy ox oy
      go_wp2_with fail
      go_region_held3 (fun w' => w'.cell? ⟨b, off + k * 2, none⟩ = some (.int .i64 sx) ∧ w'.cell? ⟨b, off + k * 2 + 1, none⟩ = some (.slice ax csx.length cx) ∧ w'.cell? ⟨b', off' + k * 2, none⟩ = some (.int .i64 sx) ∧ w'.cell? ⟨b', off' + k * 2 + 1, none⟩ = some (.slice ay csx.length cy)) (first | with_reducible exact ⟨q0, q1, q2, q3⟩ | with_reducible exact ⟨z0, z1, y0, y1⟩ | (simp [go_sem, z0, z1, y0, y1]; done)) (first
        | (go_at_call 19; with_reducible refine HC.out.mono ?_; rintro e w' ⟨rfl, q0, q1, q2, q3, hb⟩))
      all_goals
        go_wp2_with fail
        exact ⟨⟨k + 1, by omega, by go_num, hb⟩, by simp [intOf]; omega⟩
    · have hlt' : ¬ (k : Int) < (xs.length : Int) := by omega
      go_wp2_with fail
      go_ret
      exact ⟨rfl, up.out⟩

/-! ### the chain -/
/-- The number behind the last. -/
def nextOf : Option Int → List (Int × List Chg) → Option Int
  | nx, [] => nx
  | _, g :: r => nextOf (some (g.1 + (g.2.length : Int))) r
theorem nextOf_snoc : ∀ (nx : Option Int) (gs : List (Int × List Chg)) (g : Int × List Chg), nextOf nx (gs ++ [g]) = some (g.1 + (g.2.length : Int))
  | nx, [], g => rfl
  | nx, a :: r, g => nextOf_snoc _ r g
theorem Row.snoc : ∀ {nx : Option Int} {gs : List (Int × List Chg)}, Row nx gs → ∀ {g : Int × List Chg}, (nextOf nx gs = none ∨ nextOf nx gs = some g.1) → checkOf g.1 g.2 = 0 → Row nx (gs ++ [g])
  | nx, [], _, g, h, hc => ⟨h, hc, trivial⟩
  | nx, a :: r, hr, g, h, hc => ⟨hr.1, hr.2.1, Row.snoc hr.2.2 h hc⟩
theorem endsF_snoc (gs : List (Int × List Int)) (g : Int × List Int) : endsF (gs ++ [g]) = endsF gs ++ [(catF (gs ++ [g])).length] := by
  unfold endsF
  rw [List.length_append, List.length_singleton, List.range_succ, List.map_append]
  congr 1
  · refine List.map_congr_left fun i hi => ?_
    have : i < gs.length := List.mem_range.1 hi
    rw [List.take_append_of_le_length (by omega)]
  · simp only [List.map_cons, List.map_nil]
    rw [show gs.length + 1 = (gs ++ [g]).length by simp, List.take_length]
theorem catF_snoc (gs : List (Int × List Int)) (g : Int × List Int) : catF (gs ++ [g]) = catF gs ++ frameOf g.1 g.2 := by
  rw [catF_append]
  simp [catF]

theorem Try.info3 : (Try.prog.info? 3).map (fun i => (i.zero, i.size, i.bytes)) = some (some (.int .i64 0), 1, 8) := by kernel_rfl

def irow (n : Nat) : List Value := [.int .i64 (n : Int)]

structure CInv (w wr : World) (gs : List (Value × Int × List Chg)) (ag : Option Addr) (cg : Nat) (al : Option Addr) (cl : Nat) (ae : Option Addr) (ce : Nat) (next : Int) : Prop where
  good : OwnR wr w.heap.size 24 2 (.slice ag gs.length cg) (gs.map brw)
  chg : ∀ y ∈ gs, ChgsR w y.1 y.2.2
  log : OwnB wr w.heap.size (.slice al (catF ((gs.map (·.2)).map recOf)).length cl) (catF ((gs.map (·.2)).map recOf))
  ends : OwnR wr w.heap.size 3 1 (.slice ae gs.length ce) ((endsF ((gs.map (·.2)).map recOf)).map irow)
  row : Row none (gs.map (·.2))
  nxt : nextOf none (gs.map (·.2)) = none ∨ nextOf none (gs.map (·.2)) = some next
  pos : 1 ≤ next ∧ next ≤ 1 + 64 * (gs.length : Int)
  up : Below w.heap.size w wr
  nz : gs = [] → al = none ∧ cl = 0 ∧ ag = none ∧ cg = 0 ∧ ae = none ∧ ce = 0

theorem CInv.upw {w wr w' : World} {gs : List (Value × Int × List Chg)} {ag : Option Addr} {cg : Nat} {al : Option Addr} {cl : Nat} {ae : Option Addr} {ce : Nat} {next : Int} (h : CInv w wr gs ag cg al cl ae ce next) (hb : Below wr.heap.size wr w') : CInv w w' gs ag cg al cl ae ce next :=
  ⟨h.good.up hb, h.chg, own_up h.log hb, h.ends.up hb, h.row, h.nxt, h.pos, up_trans h.up hb, h.nz⟩
theorem CInv.bound {w wr : World} {gs : List (Value × Int × List Chg)} {ag : Option Addr} {cg : Nat} {al : Option Addr} {cl : Nat} {ae : Option Addr} {ce : Nat} {next : Int} (h : CInv w wr gs ag cg al cl ae ce next) : (catF ((gs.map (·.2)).map recOf)).length ≤ 70000 * gs.length := by
  have := catF_len _ h.row.okRec
  simpa using this
theorem CInv.octs {w wr : World} {gs : List (Value × Int × List Chg)} {ag : Option Addr} {cg : Nat} {al : Option Addr} {cl : Nat} {ae : Option Addr} {ce : Nat} {next : Int} (h : CInv w wr gs ag cg al cl ae ce next) : Octs wr (.slice al (catF ((gs.map (·.2)).map recOf)).length cl) (catF ((gs.map (·.2)).map recOf)) := Octs.own h.log (catF_octet _ h.row.okRec)

/-- One more batch. -/
theorem CInv.snoc {w wr wa w3 wb w4 : World} {gs : List (Value × Int × List Chg)} {ag : Option Addr} {cg : Nat} {al : Option Addr} {cl : Nat} {ae : Option Addr} {ce : Nat} {next : Int} (h : CInv w wr gs ag cg al cl ae ce next)
    {av : Value} {cs : List Chg} (hr : ChgsR w av cs) (hc : checkOf next cs = 0) (hua : Below wr.heap.size wr wa) {a1 : Option Addr} {n1 c1 : Nat} (hl : OwnB wa w.heap.size (.slice a1 n1 c1) (catF ((gs.map (·.2)).map recOf) ++ frameOf 1 (encOf next cs)))
    {v3 : Value} (ho3 : OwnR w3 w.heap.size 24 2 v3 (gs.map brw ++ [[.int .i64 next, av]])) (hg3 : wa.grownBy w3 (Value.slice ag gs.length cg).ownBlock) (hub : Below w3.heap.size w3 wb)
    {v4 : Value} (ho4 : OwnR w4 w.heap.size 3 1 v4 ((endsF ((gs.map (·.2)).map recOf)).map irow ++ [[.int .i64 (n1 : Int)]])) (hg4 : wb.grownBy w4 (Value.slice ae gs.length ce).ownBlock) :
    ∃ a3 c3 a4 c4, v3 = .slice a3 (gs.length + 1) c3 ∧ v4 = .slice a4 (gs.length + 1) c4 ∧ CInv w w4 (gs ++ [(av, next, cs)]) a3 c3 a1 c1 a4 c4 (next + (cs.length : Int)) := by
  have e0 : (gs ++ [(av, next, cs)]).map (·.2) = gs.map (·.2) ++ [(next, cs)] := by simp
  have e1 : ((gs ++ [(av, next, cs)]).map (·.2)).map recOf = (gs.map (·.2)).map recOf ++ [(1, encOf next cs)] := by rw [e0, List.map_append]; rfl
  have eL : (gs ++ [(av, next, cs)]).length = gs.length + 1 := by simp
  have eC : catF (((gs ++ [(av, next, cs)]).map (·.2)).map recOf) = catF ((gs.map (·.2)).map recOf) ++ frameOf 1 (encOf next cs) := by rw [e1, catF_snoc]
  have hn1 : n1 = (catF (((gs ++ [(av, next, cs)]).map (·.2)).map recOf)).length := by
    obtain ⟨x, y, e, _⟩ := own_len hl
    simp only [Value.slice.injEq] at e
    rw [eC]
    exact e.2.1
  obtain ⟨a3, c3, q3, _⟩ := (Rws.own ho3).len
  have l3 : (gs.map brw ++ [[Value.int .i64 next, av]]).length = gs.length + 1 := by simp
  rw [l3] at q3
  obtain ⟨a4, c4, q4, _⟩ := (Rws.own ho4).len
  have l4 : ((endsF ((gs.map (fun y => y.2)).map recOf)).map irow ++ [[Value.int .i64 (n1 : Int)]]).length = gs.length + 1 := by simp [endsF]
  rw [l4] at q4
  have hgood3 := h.good.up hua
  have hends3 : OwnR w3 w.heap.size 3 1 (.slice ae gs.length ce) ((endsF ((gs.map (·.2)).map recOf)).map irow) := OwnR.far (h.ends.up hua) hg3 (own_own_ne (h.ends.up hua).2 hgood3.2 (by decide))
  have hlog3 : OwnB w3 w.heap.size (.slice a1 n1 c1) (catF ((gs.map (·.2)).map recOf) ++ frameOf 1 (encOf next cs)) := World.ownsRow.kept hl hg3 (own_own_ne hl hgood3.2 (by decide))
  have hends4 := hends3.up hub
  have hu := up_trans h.up hua
  have hu3 : Below w.heap.size w w3 := hu.grown hg3 hu.size (fun k hk => (hgood3.2.lt k hk).1)
  have hub' := up_trans hu3 hub
  have hu4 : Below w.heap.size w w4 := hub'.grown hg4 hub'.size (fun k hk => (hends4.2.lt k hk).1)
  have hgood4 : OwnR w4 w.heap.size 24 2 v3 (gs.map brw ++ [[.int .i64 next, av]]) := OwnR.far (ho3.up hub) hg4 (own_own_ne (ho3.up hub).2 hends4.2 (by decide))
  have hlog4 : OwnB w4 w.heap.size (.slice a1 n1 c1) (catF ((gs.map (·.2)).map recOf) ++ frameOf 1 (encOf next cs)) := World.ownsRow.kept (own_up hlog3 hub) hg4 (own_own_ne (own_up hlog3 hub) hends4.2 (by decide))
  refine ⟨a3, c3, a4, c4, q3, q4, ?_⟩
  obtain ⟨k1, k2, _⟩ := checkOf_ok hc
  refine ⟨?_, ?_, ?_, ?_, ?_, ?_, ?_, hu4, fun e => by simp at e⟩
  · rw [eL, List.map_append, ← q3]
    exact hgood4
  · intro y hy
    rcases List.mem_append.1 hy with q | q
    · exact h.chg y q
    · simp at q
      subst q
      exact hr
  · rw [← hn1, eC]
    exact hlog4
  · rw [eL, e1, endsF_snoc, ← q4, List.map_append]
    rw [← e1, ← hn1]
    exact ho4
  · rw [e0]
    exact h.row.snoc h.nxt hc
  · right
    rw [e0, nextOf_snoc]
  · have := h.pos
    rw [eL]
    constructor
    · omega
    · push_cast; omega
end Go.Proofs.Ytgphkddcfcmaiaa
