/- The law WalOwn, walked: what is answered is its holder's. -/
import Derived.Test.YtgphkddcfcmaiabWSame
import Derived.Test.YtgphkddcfcmaiabGEnc
namespace Go.Proofs.Ytgphkddcfcmaiab
open Go.RowKit SumPlain
set_option linter.unusedVariables false

theorem OwnR.keep {w w' : World} {base : Nat} {e t : TypeId} {sz : Nat} {v : Value} {css : List (List Value)} {B : Nat} {cs : Array Value} {fr : Nat × Nat} (h : OwnR w base e sz v css) (hg : w.grownBy w' v.ownBlock) (hb : w.heap[B]? = some (.cells cs t fr)) (hne : e ≠ t) : w'.heap[B]? = some (.cells cs t fr) :=
  blk_grown hb hg (fun q => by
    rcases own_blk_ne h.2 hb hne with r | r
    · rw [r] at q; cases q
    · exact r q.symm)

/-- What the law has made: the log's copy, the batch for the program (in M), its changes. -/
structure Made (w W : World) (n1 M : Nat) (s : Int) (cs : List Chg) (l : List Int) (a : Option Addr) (c : Nat) (a2 : Option Addr) (c2 : Nat) (a3 : Option Addr) (c3 : Nat) : Prop where
  blk : W.heap[M]? = some (.cells #[.int .i64 s, .slice a3 cs.length c3] 28)
  own : OwnC W n1 (.slice a3 cs.length c3) cs
  log : OwnB W n1 (.slice a2 l.length c2) l
  box : W.heap[w.heap.size]? = some (.cells #[.int .i64 s, .slice a cs.length c] 25)
  up : Below w.heap.size w W
  m : n1 ≤ M
  n : w.heap.size < n1

theorem Made.upw {w W W' : World} {n1 M : Nat} {s : Int} {cs : List Chg} {l : List Int} {a : Option Addr} {c : Nat} {a2 : Option Addr} {c2 : Nat} {a3 : Option Addr} {c3 : Nat} (h : Made w W n1 M s cs l a c a2 c2 a3 c3) (hb : Below W.heap.size W W') : Made w W' n1 M s cs l a c a2 c2 a3 c3 :=
  ⟨blk_up h.blk hb, h.own.up hb, own_up h.log hb, blk_up h.box hb, up_trans h.up hb, h.m, h.n⟩

set_option maxHeartbeats 2000000 in
set_option maxRecDepth 100000 in
theorem own_walk (l : List Int) (al : Option Addr) (cl : Nat) (s : Int) (cs : List Chg) (a : Option Addr) (c : Nat) (w : World) (hl : Octs w (.slice al l.length cl) l) (hlb : l.length ≤ 140737488355328) (hv : ChgsR w (.slice a cs.length c) cs) (hcb : cs.length * 40 ≤ 140737488355328) :
    Calls Try.prog 3 #[.slice al l.length cl, .agg #[.int .i64 s, .slice a cs.length c]] w fun e w' => e = .returned (.bool true) ∧ Below w.heap.size w w' := by
  have HV : Hid (ChgsR w (.slice a cs.length c) cs) := hv
  have HLo : Hid (Octs w (.slice al l.length cl) l) := hl
  clear hv hl
  go_enter Try.func3, Try.ntmps3
  go_wp2_with fail
  refine (alive_any _).mono ?_
  rintro e w1 ⟨rfl, b1⟩
  have D1 : Hid (w1.heap[w.heap.size]? = some (.cells #[.int .i64 s, .slice a cs.length c] 25)) := blk_up (blk_new w _) b1
  have U1 : Hid (Below w.heap.size w w1) := up_trans (up_alloc w _) b1
  have S1 : Hid (w.heap.size < w1.heap.size) := blk_lt D1.out
  clear b1
  have z0 : w1.cell? ⟨w.heap.size, 0, none⟩ = some (.int .i64 s) := blk_cell D1.out 0 _ rfl
  have z1 : w1.cell? ⟨w.heap.size, 1, none⟩ = some (.slice a cs.length c) := blk_cell D1.out 1 _ rfl
  have HC5 : Hid (∀ wx, Below w1.heap.size w1 wx → Calls Try.prog 5 #[.slice al l.length cl] wx fun e w' => ∃ a' c', e = .returned (.slice a' l.length c') ∧ w'.cell? ⟨w.heap.size, 0, none⟩ = some (.int .i64 s) ∧ w'.cell? ⟨w.heap.size, 1, none⟩ = some (.slice a cs.length c) ∧ Hid (∀ o, (w'.alloc o).cell? ⟨w.heap.size, 0, none⟩ = some (.int .i64 s) ∧ (w'.alloc o).cell? ⟨w.heap.size, 1, none⟩ = some (.slice a cs.length c)) ∧ Hid (OwnB w' w1.heap.size (.slice a' l.length c') l) ∧ Hid (Below w1.heap.size w1 w') ∧ Hid (Below wx.heap.size wx w')) := by
    intro wx hx
    refine (copy_any l _ wx (HLo.out.up (up_trans U1.out hx)) hlb).mono ?_
    rintro e w' ⟨v', rfl, ho, hb⟩
    obtain ⟨a', c', rfl, _⟩ := own_len ho
    have u := up_trans hx hb
    have d := blk_up D1.out u
    exact ⟨a', c', rfl, blk_cell d 0 _ rfl, blk_cell d 1 _ rfl, fun o => ⟨blk_cell (blk_up d (up_alloc _ o)) 0 _ rfl, blk_cell (blk_up d (up_alloc _ o)) 1 _ rfl⟩, OwnB.mono ho hx.size, u, hb⟩
  have HC6 : Hid (∀ wx, Below w1.heap.size w1 wx → Calls Try.prog 6 #[.agg #[.int .i64 s, .slice a cs.length c]] wx fun e w' => ∃ a' c', e = .returned (.agg #[.int .i64 s, .slice a' cs.length c']) ∧ w'.cell? ⟨w.heap.size, 0, none⟩ = some (.int .i64 s) ∧ w'.cell? ⟨w.heap.size, 1, none⟩ = some (.slice a cs.length c) ∧ Hid (∀ o, (w'.alloc o).cell? ⟨w.heap.size, 0, none⟩ = some (.int .i64 s) ∧ (w'.alloc o).cell? ⟨w.heap.size, 1, none⟩ = some (.slice a cs.length c)) ∧ Hid (OwnC w' wx.heap.size (.slice a' cs.length c') cs) ∧ Hid (Below w1.heap.size w1 w') ∧ Hid (Below wx.heap.size wx w')) := by
    intro wx hx
    refine (of_any s cs a c wx (HV.out.up (up_trans U1.out hx)) hcb).mono ?_
    rintro e w' ⟨a', c', rfl, ho, hb⟩
    have u := up_trans hx hb
    have d := blk_up D1.out u
    exact ⟨a', c', rfl, blk_cell d 0 _ rfl, blk_cell d 1 _ rfl, fun o => ⟨blk_cell (blk_up d (up_alloc _ o)) 0 _ rfl, blk_cell (blk_up d (up_alloc _ o)) 1 _ rfl⟩, ho, u, hb⟩
  have HBD : Hid (Below w1.heap.size w1 w1.drew) := up_dr (Below.refl _ _)
  have HBA : Hid (Below w1.heap.size w1 (w1.alloc (.cells #[.int .i64 0, .slice none 0 0] 28)).drew) := up_dr (up_alloc _ _)
  have HZ : Hid (∀ w', Below (w1.alloc (.cells #[.int .i64 0, .slice none 0 0] 28)).drew.heap.size (w1.alloc (.cells #[.int .i64 0, .slice none 0 0] 28)).drew w' → w'.heap[w1.heap.size]? = some (.cells #[.int .i64 0, .slice none 0 0] 28)) := by
    intro w' h
    have := blk_up (blk_up (blk_new w1 (.cells #[.int .i64 0, .slice none 0 0] 28)) (up_dr (Below.refl _ _))) h
    exact this
  have HA0 : Hid (∀ o, (w1.alloc o).drew.cell? ⟨w.heap.size, 0, none⟩ = some (.int .i64 s) ∧ (w1.alloc o).drew.cell? ⟨w.heap.size, 1, none⟩ = some (.slice a cs.length c)) := fun o => by
    have d := blk_up (blk_up D1.out (up_alloc w1 o)) (up_dr (Below.refl _ _))
    exact ⟨blk_cell d 0 _ rfl, blk_cell d 1 _ rfl⟩
  have HSS : Hid (∀ (w3 : World) (M : Nat) (u v : Value), Below w1.heap.size w1 w3 → w1.heap.size ≤ M → ((w3.setCell ⟨M, 0, none⟩ u).setCell ⟨M, 1, none⟩ v).cell? ⟨w.heap.size, 0, none⟩ = some (.int .i64 s) ∧ ((w3.setCell ⟨M, 0, none⟩ u).setCell ⟨M, 1, none⟩ v).cell? ⟨w.heap.size, 1, none⟩ = some (.slice a cs.length c)) := by
    intro w3 M u v hb hM
    have d := blk_grown (blk_up D1.out hb) (set2_grown w3 M u v) (by have := S1.out; simp; omega)
    exact ⟨blk_cell d 0 _ rfl, blk_cell d 1 _ rfl⟩
  go_wp2_with fail
  go_region_held3 (fun w' => w'.cell? ⟨w.heap.size, 0, none⟩ = some (.int .i64 s) ∧ w'.cell? ⟨w.heap.size, 1, none⟩ = some (.slice a cs.length c)) (first | with_reducible exact HSS.out _ _ _ _ U3.out (Nat.le_refl _) | with_reducible exact HSS.out _ _ _ _ U3.out U2.out.size | with_reducible exact ⟨t0, t1⟩ | with_reducible exact tt.out _ | with_reducible exact ⟨y0, y1⟩ | with_reducible exact yy.out _ | with_reducible exact HA0.out _ | with_reducible exact ⟨z0, z1⟩ | (simp [go_sem, z0, z1]; done)) (first
    | (go_at_call 5; with_reducible refine (HC5.out _ HBD.out).mono ?_; rintro e w2 ⟨a2, c2, rfl, y0, y1, yy, O2, U2, X2⟩)
    | (go_at_call 5; with_reducible refine (HC5.out _ HBA.out).mono ?_; rintro e w2 ⟨a2, c2, rfl, y0, y1, yy, O2, U2, X2⟩; have mb := HZ.out _ X2.out; have q0 := blk_cell mb 0 (.int .i64 0) rfl; have q1 := blk_cell mb 1 (.slice none 0 0) rfl; have f0 := blk_frozen mb 0; have f1 := blk_frozen mb 1)
    | (go_at_call 6; with_reducible refine (HC6.out _ U2.out).mono ?_; rintro e w3 ⟨a3, c3, rfl, t0, t1, tt, O3, U3, X3⟩; have mb3 := blk_up mb X3.out; have r0 := blk_cell mb3 0 (.int .i64 0) rfl; have r1 := blk_cell mb3 1 (.slice none 0 0) rfl; have h0 := blk_frozen mb3 0; have h1 := blk_frozen mb3 1)
    | (go_at_call 6; with_reducible refine (HC6.out _ U2.out).mono ?_; rintro e w3 ⟨a3, c3, rfl, t0, t1, tt, O3, U3, X3⟩)
    | (go_at_call 6; with_reducible refine (HC6.out _ (up_al U2.out _)).mono ?_; rintro e w3 ⟨a3, c3, rfl, t0, t1, tt, O3, U3, X3⟩; have mb4 := blk_up (blk_new w2 _) X3.out; have r0 := blk_cell mb4 0 (.int .i64 0) rfl; have r1 := blk_cell mb4 1 (.slice none 0 0) rfl; have h0 := blk_frozen mb4 0; have h1 := blk_frozen mb4 1))
  · have RD : Hid (Made w (w3.alloc (.cells #[.int .i64 s, .slice a3 cs.length c3] 28)) w1.heap.size w3.heap.size s cs l a c a2 c2 a3 c3) := ⟨blk_new _ _, (O3.out.mono U2.out.size).up (up_alloc _ _), own_up (own_up O2.out X3.out) (up_alloc _ _), blk_up (blk_up D1.out U3.out) (up_alloc _ _), up_al (up_trans U1.out U3.out) _, U3.out.size, S1.out⟩
    clear HC5 HC6 HBD HBA HZ HA0 HSS O2 U2 X2 O3 U3 X3 yy tt D1 y0 y1 t0 t1 z0 z1
    have RD' : Hid (Made w (w3.alloc (.cells #[.int .i64 s, .slice a3 cs.length c3] 28)) w1.heap.size w3.heap.size s cs l a c a2 c2 a3 c3) := RD
    clear RD
    have HX : Hid (∀ y ∈ l, 0 ≤ y ∧ y ≤ 255) := HLo.out.1
    have x0 : (w3.alloc (.cells #[.int .i64 s, .slice a3 cs.length c3] 28)).cell? ⟨w3.heap.size, 0, none⟩ = some (.int .i64 s) := blk_cell RD'.out.blk 0 _ rfl
    have x1 : (w3.alloc (.cells #[.int .i64 s, .slice a3 cs.length c3] 28)).cell? ⟨w3.heap.size, 1, none⟩ = some (.slice a3 cs.length c3) := blk_cell RD'.out.blk 1 _ rfl
    generalize (w3.alloc (.cells #[.int .i64 s, .slice a3 cs.length c3] 28)) = W at *
    generalize w3.heap.size = M at *
    have RD : Hid (Made w W w1.heap.size M s cs l a c a2 c2 a3 c3) := RD'
    clear RD'
    go_wp2_with fail
    by_cases hz : checkOf s cs = 0
    · have HPX : Hid (∀ y ∈ l ++ frameOf 1 (encOf s cs), 0 ≤ y ∧ y ≤ 255) := by
        intro y hy
        rcases List.mem_append.1 hy with q | q
        · exact HX.out y q
        · exact frame_octs s cs hz y q
      refine (add_good s cs a3 c3 l a2 c2 W RD.out.own.read (Octs.own RD.out.log HX.out) hlb hz).mono ?_
      rintro e w4 ⟨ap, np, cp, rfl, P4, B4⟩
      have RD4 : Hid (Made w w4 w1.heap.size M s cs l a c a2 c2 a3 c3) := RD.out.upw B4.out
      have y0 : w4.cell? ⟨w.heap.size, 0, none⟩ = some (.int .i64 s) := blk_cell RD4.out.box 0 _ rfl
      have y1 : w4.cell? ⟨w.heap.size, 1, none⟩ = some (.slice a cs.length c) := blk_cell RD4.out.box 1 _ rfl
      go_wp2_with fail
      refine (refAdd_good s cs a c l al cl w4 (HV.out.up RD4.out.up) (HLo.out.up RD4.out.up) hlb hz).mono ?_
      rintro e w5 ⟨aq, nq, cq, rfl, Q5, B5⟩
      have U5 : Hid (Below W.heap.size W w5) := up_trans B4.out B5.out
      have OP : Hid (OwnB w5 W.heap.size (.slice ap np cp) (l ++ frameOf 1 (encOf s cs))) := own_up P4.out B5.out
      have OQ : Hid (OwnB w5 W.heap.size (.slice aq nq cq) (l ++ frameOf 1 (encOf s cs))) := OwnB.mono Q5.out B4.out.size
      generalize hPP : l ++ frameOf 1 (encOf s cs) = P at *
      clear P4 Q5 B4 B5 RD4 hPP hz
      have RD5 : Hid (Made w w5 w1.heap.size M s cs l a c a2 c2 a3 c3) := RD.out.upw U5.out
      have LT5 : Hid (∀ g, (Value.slice a2 l.length c2).ownBlock = some g → g < W.heap.size) := fun g hg => (RD.out.log.lt g hg).2
      have SW5 : Hid (W.heap.size ≤ w5.heap.size) := U5.out.size
      clear RD x0 x1 y0 y1
      go_wp2_with fail
      refine (spoil_any l _ w5 _ RD5.out.log HX.out hlb).mono ?_
      rintro e w6 ⟨⟨u6, rfl⟩, g6⟩
      have OP6 : Hid (OwnB w6 W.heap.size (.slice ap np cp) P) := World.ownsRow.kept OP.out g6 (by
        cases h : (Value.slice ap np cp).ownBlock with
        | none => exact .inl rfl
        | some g =>
          refine .inr fun e => ?_
          have := (OP.out.lt g h).1
          have := LT5.out g e.symm
          omega)
      have OQ6 : Hid (OwnB w6 W.heap.size (.slice aq nq cq) P) := World.ownsRow.kept OQ.out g6 (by
        cases h : (Value.slice aq nq cq).ownBlock with
        | none => exact .inl rfl
        | some g =>
          refine .inr fun e => ?_
          have := (OQ.out.lt g h).1
          have := LT5.out g e.symm
          omega)
      have MB6 : Hid (w6.heap[M]? = some (.cells #[.int .i64 s, .slice a3 cs.length c3] 28)) := (Keep5.grown RD5.out.log g6) _ _ _ _ RD5.out.blk (by decide)
      have OC6 : Hid (OwnC w6 w1.heap.size (.slice a3 cs.length c3) cs) := OwnR.far RD5.out.own g6 (own_own_ne RD5.out.own.2 RD5.out.log (by decide))
      have U6 : Hid (Below w.heap.size w w6) := RD5.out.up.grown g6 RD5.out.up.size (fun j hj => by have := (RD5.out.log.lt j hj).1; have := S1.out; omega)
      clear g6 OP OQ RD5 LT5 U5
      go_wp2_with fail
      go_loopw [11] (fun i wr => ∃ (k : Nat) (rows : List (List Value)), k ≤ cs.length ∧ i = .int .i64 k ∧ Hid (rows.length = cs.length) ∧ Hid (OwnR wr w1.heap.size 37 3 (.slice a3 cs.length c3) rows) ∧ Hid (wr.heap[M]? = some (.cells #[.int .i64 s, .slice a3 cs.length c3] 28)) ∧ Hid (OwnB wr W.heap.size (.slice ap np cp) P) ∧ Hid (OwnB wr W.heap.size (.slice aq nq cq) P) ∧ Hid (Below w.heap.size w wr)) (fun i _ => cs.length - (intOf i).toNat)
      case atStart => exact ⟨0, cs.map crow, Nat.zero_le _, rfl, by unfold Hid; simp, OC6, MB6, OP6, OQ6, U6⟩
      case round =>
        clear OC6 MB6 OP6 OQ6 U6
        obtain ⟨k, rows, hk, rfl, HLn, HO, HM, HP, HQ, HU⟩ := hrel
        have m1 : wr.cell? ⟨M, 1, none⟩ = some (.slice a3 cs.length c3) := blk_cell HM.out 1 _ rfl
        by_cases hlt : k < cs.length
        · have hlt' : (k : Int) < (cs.length : Int) := by omega
          have hln := HLn.out
          obtain ⟨g, rfl, hcc⟩ : ∃ g, a3 = some ⟨g, 0, none⟩ ∧ cs.length ≤ c3 := by
            rcases HO.out.2.2 with ⟨h1, h2⟩ | ⟨g, c', cur, h1, _, _, h2, h3, _⟩
            · omega
            · simp only [Value.slice.injEq] at h1
              exact ⟨g, h1.1, by rw [h1.2.2]; omega⟩
          obtain ⟨k1, g1, f1⟩ := HO.out.set hln k hlt 0 (by decide) (.string ⟨#[]⟩)
          obtain ⟨k2, g2, f2⟩ := k1.set (by rw [List.length_set]; exact hln) k hlt 1 (by decide) (.bool false)
          obtain ⟨k3, g3, f3⟩ := k2.set (by rw [List.length_set, List.length_set]; exact hln) k hlt 2 (by decide) (.string ⟨#[]⟩)
          have g123 := grown_trans (grown_trans g1 g2) g3
          have K3 : Hid (OwnR (((wr.setCell ⟨g, k * 3 + 0, none⟩ (.string ⟨#[]⟩)).setCell ⟨g, k * 3 + 1, none⟩ (.bool false)).setCell ⟨g, k * 3 + 2, none⟩ (.string ⟨#[]⟩)) w1.heap.size 37 3 (.slice (some ⟨g, 0, none⟩) cs.length c3) _) := k3
          have G3 : Hid (wr.grownBy (((wr.setCell ⟨g, k * 3 + 0, none⟩ (.string ⟨#[]⟩)).setCell ⟨g, k * 3 + 1, none⟩ (.bool false)).setCell ⟨g, k * 3 + 2, none⟩ (.string ⟨#[]⟩)) (some g)) := g123
          have hr := Rws.own HO.out
          obtain ⟨b', off', cap', e', _, _, hcell⟩ := hr.at k (by omega)
          simp only [Value.slice.injEq, Option.some.injEq, Addr.mk.injEq] at e'
          obtain ⟨⟨rfl, rfl, _⟩, _, _⟩ := e'
          obtain ⟨u0, u1, u2, hrow⟩ : ∃ u0 u1 u2, rows.getD k [] = [u0, u1, u2] := by
            have h3 := hr.1 (rows.getD k []) (by simp [List.getD, show k < rows.length by omega])
            match rows.getD k [], h3 with
            | [u0, u1, u2], _ => exact ⟨u0, u1, u2, rfl⟩
          rw [hrow] at hcell
          have c0 : wr.cell? ⟨g, k * 3, none⟩ = some u0 := by have := hcell 0 u0 rfl; simpa using this
          have c1 : wr.cell? ⟨g, k * 3 + 1, none⟩ = some u1 := by have := hcell 1 u1 rfl; simpa using this
          have c2' : wr.cell? ⟨g, k * 3 + 2, none⟩ = some u2 := by have := hcell 2 u2 rfl; simpa using this
          have e0 : wr.frozen? ⟨g, k * 3, none⟩ = false := by have := f1; simpa using this
          have e1 : wr.frozen? ⟨g, k * 3 + 1, none⟩ = false := by have := f2; simpa using this
          have e2 : wr.frozen? ⟨g, k * 3 + 2, none⟩ = false := by have := f3; simpa using this
          have hM' : Hid ((((wr.setCell ⟨g, k * 3 + 0, none⟩ (.string ⟨#[]⟩)).setCell ⟨g, k * 3 + 1, none⟩ (.bool false)).setCell ⟨g, k * 3 + 2, none⟩ (.string ⟨#[]⟩)).heap[M]? = some (.cells #[.int .i64 s, .slice (some ⟨g, 0, none⟩) cs.length c3] 28)) := OwnR.keep HO.out G3.out HM.out (by decide)
          have hP' : Hid (OwnB (((wr.setCell ⟨g, k * 3 + 0, none⟩ (.string ⟨#[]⟩)).setCell ⟨g, k * 3 + 1, none⟩ (.bool false)).setCell ⟨g, k * 3 + 2, none⟩ (.string ⟨#[]⟩)) W.heap.size (.slice ap np cp) P) := World.ownsRow.kept HP.out G3.out (own_own_ne HP.out HO.out.2 (by decide))
          have hQ' : Hid (OwnB (((wr.setCell ⟨g, k * 3 + 0, none⟩ (.string ⟨#[]⟩)).setCell ⟨g, k * 3 + 1, none⟩ (.bool false)).setCell ⟨g, k * 3 + 2, none⟩ (.string ⟨#[]⟩)) W.heap.size (.slice aq nq cq) P) := World.ownsRow.kept HQ.out G3.out (own_own_ne HQ.out HO.out.2 (by decide))
          have hU' : Hid (Below w.heap.size w (((wr.setCell ⟨g, k * 3 + 0, none⟩ (.string ⟨#[]⟩)).setCell ⟨g, k * 3 + 1, none⟩ (.bool false)).setCell ⟨g, k * 3 + 2, none⟩ (.string ⟨#[]⟩))) := HU.out.grown G3.out HU.out.size (fun j hj => by have h9 := (HO.out.2.lt g rfl).1; have := S1.out; injection hj with hj; omega)
          have LN' : Hid ((((rows.set k ((rows.getD k []).set 0 (.string ⟨#[]⟩))).set k (((rows.set k ((rows.getD k []).set 0 (.string ⟨#[]⟩))).getD k []).set 1 (.bool false))).set k ((((rows.set k ((rows.getD k []).set 0 (.string ⟨#[]⟩))).set k (((rows.set k ((rows.getD k []).set 0 (.string ⟨#[]⟩))).getD k []).set 1 (.bool false))).getD k []).set 2 (.string ⟨#[]⟩))).length = cs.length) := by unfold Hid; rw [List.length_set, List.length_set, List.length_set]; exact hln
          clear k1 k2 k3 g1 g2 g3 f1 f2 f3 g123 hr hcell hrow
          simp only [Nat.add_zero] at K3 G3 hM' hP' hQ' hU'
          clear HO HM HP HQ HU G3 HLn hln
          go_wp2
          exact ⟨⟨k + 1, _, hlt, by go_num, LN', K3, hM', hP', hQ', hU'⟩, by simp [intOf]; omega⟩
        · have hlt' : ¬ (k : Int) < (cs.length : Int) := by omega
          have VP : Hid (Octs wr (.slice ap np cp) P) := Octs.own HP.out HPX.out
          have VQ : Hid (Octs wr (.slice aq nq cq) P) := Octs.own HQ.out HPX.out
          clear HP HQ HO HM
          go_wp2_with fail
          refine (num_any _ _).mono ?_
          rintro e w8 ⟨rfl, rfl⟩
          go_wp2_with fail
          refine (same_any P P _ _ _ VP.out VQ.out).mono ?_
          rintro e w9 ⟨rfl, rfl⟩
          go_wp2
          go_ret
          exact ⟨ret_bool (by simp), HU.out⟩
    · have HPX : Hid (∀ y ∈ ([] : List Int), 0 ≤ y ∧ y ≤ 255) := by intro y hy; cases hy
      refine (add_bad s cs a3 c3 a2 l.length c2 W RD.out.own.read hz).mono ?_
      rintro e w4 ⟨rfl, b4⟩
      have RD4 : Hid (Made w w4 w1.heap.size M s cs l a c a2 c2 a3 c3) := RD.out.upw b4
      have y0 : w4.cell? ⟨w.heap.size, 0, none⟩ = some (.int .i64 s) := blk_cell RD4.out.box 0 _ rfl
      have y1 : w4.cell? ⟨w.heap.size, 1, none⟩ = some (.slice a cs.length c) := blk_cell RD4.out.box 1 _ rfl
      have hz1 : (checkOf s cs == 0) = false := by simp [hz]
      go_wp2_with fail
      refine (refAdd_bad s cs a c al l.length cl w4 (HV.out.up RD4.out.up) hz).mono ?_
      rintro e w5 ⟨rfl, b5⟩
      have U5 : Hid (Below W.heap.size W w5) := up_trans b4 b5
      have OP : Hid (OwnB w5 W.heap.size (.slice none 0 0) []) := OwnB.nil _ _
      have OQ : Hid (OwnB w5 W.heap.size (.slice none 0 0) []) := OwnB.nil _ _
      clear RD4 b4 b5
      have RD5 : Hid (Made w w5 w1.heap.size M s cs l a c a2 c2 a3 c3) := RD.out.upw U5.out
      have LT5 : Hid (∀ g, (Value.slice a2 l.length c2).ownBlock = some g → g < W.heap.size) := fun g hg => (RD.out.log.lt g hg).2
      have SW5 : Hid (W.heap.size ≤ w5.heap.size) := U5.out.size
      clear RD x0 x1 y0 y1
      go_wp2_with fail
      refine (spoil_any l _ w5 _ RD5.out.log HX.out hlb).mono ?_
      rintro e w6 ⟨⟨u6, rfl⟩, g6⟩
      have OP6 : Hid (OwnB w6 W.heap.size (.slice none 0 0) []) := World.ownsRow.kept OP.out g6 (by
        cases h : (Value.slice none 0 0).ownBlock with
        | none => exact .inl rfl
        | some g =>
          refine .inr fun e => ?_
          have := (OP.out.lt g h).1
          have := LT5.out g e.symm
          omega)
      have OQ6 : Hid (OwnB w6 W.heap.size (.slice none 0 0) []) := World.ownsRow.kept OQ.out g6 (by
        cases h : (Value.slice none 0 0).ownBlock with
        | none => exact .inl rfl
        | some g =>
          refine .inr fun e => ?_
          have := (OQ.out.lt g h).1
          have := LT5.out g e.symm
          omega)
      have MB6 : Hid (w6.heap[M]? = some (.cells #[.int .i64 s, .slice a3 cs.length c3] 28)) := (Keep5.grown RD5.out.log g6) _ _ _ _ RD5.out.blk (by decide)
      have OC6 : Hid (OwnC w6 w1.heap.size (.slice a3 cs.length c3) cs) := OwnR.far RD5.out.own g6 (own_own_ne RD5.out.own.2 RD5.out.log (by decide))
      have U6 : Hid (Below w.heap.size w w6) := RD5.out.up.grown g6 RD5.out.up.size (fun j hj => by have := (RD5.out.log.lt j hj).1; have := S1.out; omega)
      clear g6 OP OQ RD5 LT5 U5
      go_wp2_with fail
      go_loopw [11] (fun i wr => ∃ (k : Nat) (rows : List (List Value)), k ≤ cs.length ∧ i = .int .i64 k ∧ Hid (rows.length = cs.length) ∧ Hid (OwnR wr w1.heap.size 37 3 (.slice a3 cs.length c3) rows) ∧ Hid (wr.heap[M]? = some (.cells #[.int .i64 s, .slice a3 cs.length c3] 28)) ∧ Hid (OwnB wr W.heap.size (.slice none 0 0) []) ∧ Hid (OwnB wr W.heap.size (.slice none 0 0) []) ∧ Hid (Below w.heap.size w wr)) (fun i _ => cs.length - (intOf i).toNat)
      case atStart => exact ⟨0, cs.map crow, Nat.zero_le _, rfl, by unfold Hid; simp, OC6, MB6, OP6, OQ6, U6⟩
      case round =>
        clear OC6 MB6 OP6 OQ6 U6
        obtain ⟨k, rows, hk, rfl, HLn, HO, HM, HP, HQ, HU⟩ := hrel
        have m1 : wr.cell? ⟨M, 1, none⟩ = some (.slice a3 cs.length c3) := blk_cell HM.out 1 _ rfl
        by_cases hlt : k < cs.length
        · have hlt' : (k : Int) < (cs.length : Int) := by omega
          have hln := HLn.out
          obtain ⟨g, rfl, hcc⟩ : ∃ g, a3 = some ⟨g, 0, none⟩ ∧ cs.length ≤ c3 := by
            rcases HO.out.2.2 with ⟨h1, h2⟩ | ⟨g, c', cur, h1, _, _, h2, h3, _⟩
            · omega
            · simp only [Value.slice.injEq] at h1
              exact ⟨g, h1.1, by rw [h1.2.2]; omega⟩
          obtain ⟨k1, g1, f1⟩ := HO.out.set hln k hlt 0 (by decide) (.string ⟨#[]⟩)
          obtain ⟨k2, g2, f2⟩ := k1.set (by rw [List.length_set]; exact hln) k hlt 1 (by decide) (.bool false)
          obtain ⟨k3, g3, f3⟩ := k2.set (by rw [List.length_set, List.length_set]; exact hln) k hlt 2 (by decide) (.string ⟨#[]⟩)
          have g123 := grown_trans (grown_trans g1 g2) g3
          have K3 : Hid (OwnR (((wr.setCell ⟨g, k * 3 + 0, none⟩ (.string ⟨#[]⟩)).setCell ⟨g, k * 3 + 1, none⟩ (.bool false)).setCell ⟨g, k * 3 + 2, none⟩ (.string ⟨#[]⟩)) w1.heap.size 37 3 (.slice (some ⟨g, 0, none⟩) cs.length c3) _) := k3
          have G3 : Hid (wr.grownBy (((wr.setCell ⟨g, k * 3 + 0, none⟩ (.string ⟨#[]⟩)).setCell ⟨g, k * 3 + 1, none⟩ (.bool false)).setCell ⟨g, k * 3 + 2, none⟩ (.string ⟨#[]⟩)) (some g)) := g123
          have hr := Rws.own HO.out
          obtain ⟨b', off', cap', e', _, _, hcell⟩ := hr.at k (by omega)
          simp only [Value.slice.injEq, Option.some.injEq, Addr.mk.injEq] at e'
          obtain ⟨⟨rfl, rfl, _⟩, _, _⟩ := e'
          obtain ⟨u0, u1, u2, hrow⟩ : ∃ u0 u1 u2, rows.getD k [] = [u0, u1, u2] := by
            have h3 := hr.1 (rows.getD k []) (by simp [List.getD, show k < rows.length by omega])
            match rows.getD k [], h3 with
            | [u0, u1, u2], _ => exact ⟨u0, u1, u2, rfl⟩
          rw [hrow] at hcell
          have c0 : wr.cell? ⟨g, k * 3, none⟩ = some u0 := by have := hcell 0 u0 rfl; simpa using this
          have c1 : wr.cell? ⟨g, k * 3 + 1, none⟩ = some u1 := by have := hcell 1 u1 rfl; simpa using this
          have c2' : wr.cell? ⟨g, k * 3 + 2, none⟩ = some u2 := by have := hcell 2 u2 rfl; simpa using this
          have e0 : wr.frozen? ⟨g, k * 3, none⟩ = false := by have := f1; simpa using this
          have e1 : wr.frozen? ⟨g, k * 3 + 1, none⟩ = false := by have := f2; simpa using this
          have e2 : wr.frozen? ⟨g, k * 3 + 2, none⟩ = false := by have := f3; simpa using this
          have hM' : Hid ((((wr.setCell ⟨g, k * 3 + 0, none⟩ (.string ⟨#[]⟩)).setCell ⟨g, k * 3 + 1, none⟩ (.bool false)).setCell ⟨g, k * 3 + 2, none⟩ (.string ⟨#[]⟩)).heap[M]? = some (.cells #[.int .i64 s, .slice (some ⟨g, 0, none⟩) cs.length c3] 28)) := OwnR.keep HO.out G3.out HM.out (by decide)
          have hP' : Hid (OwnB (((wr.setCell ⟨g, k * 3 + 0, none⟩ (.string ⟨#[]⟩)).setCell ⟨g, k * 3 + 1, none⟩ (.bool false)).setCell ⟨g, k * 3 + 2, none⟩ (.string ⟨#[]⟩)) W.heap.size (.slice none 0 0) []) := World.ownsRow.kept HP.out G3.out (own_own_ne HP.out HO.out.2 (by decide))
          have hQ' : Hid (OwnB (((wr.setCell ⟨g, k * 3 + 0, none⟩ (.string ⟨#[]⟩)).setCell ⟨g, k * 3 + 1, none⟩ (.bool false)).setCell ⟨g, k * 3 + 2, none⟩ (.string ⟨#[]⟩)) W.heap.size (.slice none 0 0) []) := World.ownsRow.kept HQ.out G3.out (own_own_ne HQ.out HO.out.2 (by decide))
          have hU' : Hid (Below w.heap.size w (((wr.setCell ⟨g, k * 3 + 0, none⟩ (.string ⟨#[]⟩)).setCell ⟨g, k * 3 + 1, none⟩ (.bool false)).setCell ⟨g, k * 3 + 2, none⟩ (.string ⟨#[]⟩))) := HU.out.grown G3.out HU.out.size (fun j hj => by have h9 := (HO.out.2.lt g rfl).1; have := S1.out; injection hj with hj; omega)
          have LN' : Hid ((((rows.set k ((rows.getD k []).set 0 (.string ⟨#[]⟩))).set k (((rows.set k ((rows.getD k []).set 0 (.string ⟨#[]⟩))).getD k []).set 1 (.bool false))).set k ((((rows.set k ((rows.getD k []).set 0 (.string ⟨#[]⟩))).set k (((rows.set k ((rows.getD k []).set 0 (.string ⟨#[]⟩))).getD k []).set 1 (.bool false))).getD k []).set 2 (.string ⟨#[]⟩))).length = cs.length) := by unfold Hid; rw [List.length_set, List.length_set, List.length_set]; exact hln
          clear k1 k2 k3 g1 g2 g3 f1 f2 f3 g123 hr hcell hrow
          simp only [Nat.add_zero] at K3 G3 hM' hP' hQ' hU'
          clear HO HM HP HQ HU G3 HLn hln
          go_wp2
          exact ⟨⟨k + 1, _, hlt, by go_num, LN', K3, hM', hP', hQ', hU'⟩, by simp [intOf]; omega⟩
        · have hlt' : ¬ (k : Int) < (cs.length : Int) := by omega
          have VP : Hid (Octs wr (.slice none 0 0) []) := Octs.own HP.out HPX.out
          have VQ : Hid (Octs wr (.slice none 0 0) []) := Octs.own HQ.out HPX.out
          clear HP HQ HO HM
          go_wp2_with fail
          refine (num_any _ _).mono ?_
          rintro e w8 ⟨rfl, rfl⟩
          go_wp2_with fail
          refine (same_any [] [] _ _ _ VP.out VQ.out).mono ?_
          rintro e w9 ⟨rfl, rfl⟩
          go_wp2
          go_ret
          exact ⟨ret_bool (by simp), HU.out⟩
  · have RD : Hid (Made w (set2 w3 w2.heap.size (.int .i64 s) (.slice a3 cs.length c3)) w1.heap.size w2.heap.size s cs l a c a2 c2 a3 c3) := ⟨set2_blk mb4 _ _, OwnC.mono (base := w2.heap.size + 1) ((O3.out.mono (by simp)).kept (set2_grown _ _ _ _) (fun g hg => by injection hg with hg; omega)) (by have := U2.out.size; omega), World.ownsRow.kept (own_up (own_up O2.out (up_alloc _ _)) X3.out) (set2_grown _ _ _ _) (own_blk_ne (own_up (own_up O2.out (up_alloc _ _)) X3.out) mb4 (by decide)), blk_grown (blk_up D1.out U3.out) (set2_grown _ _ _ _) (by have := S1.out; have := U2.out.size; simp; omega), (up_trans U1.out U3.out).grown (set2_grown _ _ _ _) (up_trans U1.out U3.out).size (fun g hg => by have := S1.out; have := U2.out.size; injection hg with hg; omega), U2.out.size, S1.out⟩
    clear HC5 HC6 HBD HBA HZ HA0 HSS O2 U2 X2 O3 U3 X3 yy tt D1 y0 y1 t0 t1 z0 z1 mb4 r0 r1 h0 h1
    have RD' : Hid (Made w ((w3.setCell ⟨w2.heap.size, 0, none⟩ (.int .i64 s)).setCell ⟨w2.heap.size, 1, none⟩ (.slice a3 cs.length c3)) w1.heap.size w2.heap.size s cs l a c a2 c2 a3 c3) := RD
    clear RD
    have HX : Hid (∀ y ∈ l, 0 ≤ y ∧ y ≤ 255) := HLo.out.1
    have x0 : ((w3.setCell ⟨w2.heap.size, 0, none⟩ (.int .i64 s)).setCell ⟨w2.heap.size, 1, none⟩ (.slice a3 cs.length c3)).cell? ⟨w2.heap.size, 0, none⟩ = some (.int .i64 s) := blk_cell RD'.out.blk 0 _ rfl
    have x1 : ((w3.setCell ⟨w2.heap.size, 0, none⟩ (.int .i64 s)).setCell ⟨w2.heap.size, 1, none⟩ (.slice a3 cs.length c3)).cell? ⟨w2.heap.size, 1, none⟩ = some (.slice a3 cs.length c3) := blk_cell RD'.out.blk 1 _ rfl
    generalize ((w3.setCell ⟨w2.heap.size, 0, none⟩ (.int .i64 s)).setCell ⟨w2.heap.size, 1, none⟩ (.slice a3 cs.length c3)) = W at *
    generalize w2.heap.size = M at *
    have RD : Hid (Made w W w1.heap.size M s cs l a c a2 c2 a3 c3) := RD'
    clear RD'
    go_wp2_with fail
    by_cases hz : checkOf s cs = 0
    · have HPX : Hid (∀ y ∈ l ++ frameOf 1 (encOf s cs), 0 ≤ y ∧ y ≤ 255) := by
        intro y hy
        rcases List.mem_append.1 hy with q | q
        · exact HX.out y q
        · exact frame_octs s cs hz y q
      refine (add_good s cs a3 c3 l a2 c2 W RD.out.own.read (Octs.own RD.out.log HX.out) hlb hz).mono ?_
      rintro e w4 ⟨ap, np, cp, rfl, P4, B4⟩
      have RD4 : Hid (Made w w4 w1.heap.size M s cs l a c a2 c2 a3 c3) := RD.out.upw B4.out
      have y0 : w4.cell? ⟨w.heap.size, 0, none⟩ = some (.int .i64 s) := blk_cell RD4.out.box 0 _ rfl
      have y1 : w4.cell? ⟨w.heap.size, 1, none⟩ = some (.slice a cs.length c) := blk_cell RD4.out.box 1 _ rfl
      go_wp2_with fail
      refine (refAdd_good s cs a c l al cl w4 (HV.out.up RD4.out.up) (HLo.out.up RD4.out.up) hlb hz).mono ?_
      rintro e w5 ⟨aq, nq, cq, rfl, Q5, B5⟩
      have U5 : Hid (Below W.heap.size W w5) := up_trans B4.out B5.out
      have OP : Hid (OwnB w5 W.heap.size (.slice ap np cp) (l ++ frameOf 1 (encOf s cs))) := own_up P4.out B5.out
      have OQ : Hid (OwnB w5 W.heap.size (.slice aq nq cq) (l ++ frameOf 1 (encOf s cs))) := OwnB.mono Q5.out B4.out.size
      generalize hPP : l ++ frameOf 1 (encOf s cs) = P at *
      clear P4 Q5 B4 B5 RD4 hPP hz
      have RD5 : Hid (Made w w5 w1.heap.size M s cs l a c a2 c2 a3 c3) := RD.out.upw U5.out
      have LT5 : Hid (∀ g, (Value.slice a2 l.length c2).ownBlock = some g → g < W.heap.size) := fun g hg => (RD.out.log.lt g hg).2
      have SW5 : Hid (W.heap.size ≤ w5.heap.size) := U5.out.size
      clear RD x0 x1 y0 y1
      go_wp2_with fail
      refine (spoil_any l _ w5 _ RD5.out.log HX.out hlb).mono ?_
      rintro e w6 ⟨⟨u6, rfl⟩, g6⟩
      have OP6 : Hid (OwnB w6 W.heap.size (.slice ap np cp) P) := World.ownsRow.kept OP.out g6 (by
        cases h : (Value.slice ap np cp).ownBlock with
        | none => exact .inl rfl
        | some g =>
          refine .inr fun e => ?_
          have := (OP.out.lt g h).1
          have := LT5.out g e.symm
          omega)
      have OQ6 : Hid (OwnB w6 W.heap.size (.slice aq nq cq) P) := World.ownsRow.kept OQ.out g6 (by
        cases h : (Value.slice aq nq cq).ownBlock with
        | none => exact .inl rfl
        | some g =>
          refine .inr fun e => ?_
          have := (OQ.out.lt g h).1
          have := LT5.out g e.symm
          omega)
      have MB6 : Hid (w6.heap[M]? = some (.cells #[.int .i64 s, .slice a3 cs.length c3] 28)) := (Keep5.grown RD5.out.log g6) _ _ _ _ RD5.out.blk (by decide)
      have OC6 : Hid (OwnC w6 w1.heap.size (.slice a3 cs.length c3) cs) := OwnR.far RD5.out.own g6 (own_own_ne RD5.out.own.2 RD5.out.log (by decide))
      have U6 : Hid (Below w.heap.size w w6) := RD5.out.up.grown g6 RD5.out.up.size (fun j hj => by have := (RD5.out.log.lt j hj).1; have := S1.out; omega)
      clear g6 OP OQ RD5 LT5 U5
      go_wp2_with fail
      go_loopw [11] (fun i wr => ∃ (k : Nat) (rows : List (List Value)), k ≤ cs.length ∧ i = .int .i64 k ∧ Hid (rows.length = cs.length) ∧ Hid (OwnR wr w1.heap.size 37 3 (.slice a3 cs.length c3) rows) ∧ Hid (wr.heap[M]? = some (.cells #[.int .i64 s, .slice a3 cs.length c3] 28)) ∧ Hid (OwnB wr W.heap.size (.slice ap np cp) P) ∧ Hid (OwnB wr W.heap.size (.slice aq nq cq) P) ∧ Hid (Below w.heap.size w wr)) (fun i _ => cs.length - (intOf i).toNat)
      case atStart => exact ⟨0, cs.map crow, Nat.zero_le _, rfl, by unfold Hid; simp, OC6, MB6, OP6, OQ6, U6⟩
      case round =>
        clear OC6 MB6 OP6 OQ6 U6
        obtain ⟨k, rows, hk, rfl, HLn, HO, HM, HP, HQ, HU⟩ := hrel
        have m1 : wr.cell? ⟨M, 1, none⟩ = some (.slice a3 cs.length c3) := blk_cell HM.out 1 _ rfl
        by_cases hlt : k < cs.length
        · have hlt' : (k : Int) < (cs.length : Int) := by omega
          have hln := HLn.out
          obtain ⟨g, rfl, hcc⟩ : ∃ g, a3 = some ⟨g, 0, none⟩ ∧ cs.length ≤ c3 := by
            rcases HO.out.2.2 with ⟨h1, h2⟩ | ⟨g, c', cur, h1, _, _, h2, h3, _⟩
            · omega
            · simp only [Value.slice.injEq] at h1
              exact ⟨g, h1.1, by rw [h1.2.2]; omega⟩
          obtain ⟨k1, g1, f1⟩ := HO.out.set hln k hlt 0 (by decide) (.string ⟨#[]⟩)
          obtain ⟨k2, g2, f2⟩ := k1.set (by rw [List.length_set]; exact hln) k hlt 1 (by decide) (.bool false)
          obtain ⟨k3, g3, f3⟩ := k2.set (by rw [List.length_set, List.length_set]; exact hln) k hlt 2 (by decide) (.string ⟨#[]⟩)
          have g123 := grown_trans (grown_trans g1 g2) g3
          have K3 : Hid (OwnR (((wr.setCell ⟨g, k * 3 + 0, none⟩ (.string ⟨#[]⟩)).setCell ⟨g, k * 3 + 1, none⟩ (.bool false)).setCell ⟨g, k * 3 + 2, none⟩ (.string ⟨#[]⟩)) w1.heap.size 37 3 (.slice (some ⟨g, 0, none⟩) cs.length c3) _) := k3
          have G3 : Hid (wr.grownBy (((wr.setCell ⟨g, k * 3 + 0, none⟩ (.string ⟨#[]⟩)).setCell ⟨g, k * 3 + 1, none⟩ (.bool false)).setCell ⟨g, k * 3 + 2, none⟩ (.string ⟨#[]⟩)) (some g)) := g123
          have hr := Rws.own HO.out
          obtain ⟨b', off', cap', e', _, _, hcell⟩ := hr.at k (by omega)
          simp only [Value.slice.injEq, Option.some.injEq, Addr.mk.injEq] at e'
          obtain ⟨⟨rfl, rfl, _⟩, _, _⟩ := e'
          obtain ⟨u0, u1, u2, hrow⟩ : ∃ u0 u1 u2, rows.getD k [] = [u0, u1, u2] := by
            have h3 := hr.1 (rows.getD k []) (by simp [List.getD, show k < rows.length by omega])
            match rows.getD k [], h3 with
            | [u0, u1, u2], _ => exact ⟨u0, u1, u2, rfl⟩
          rw [hrow] at hcell
          have c0 : wr.cell? ⟨g, k * 3, none⟩ = some u0 := by have := hcell 0 u0 rfl; simpa using this
          have c1 : wr.cell? ⟨g, k * 3 + 1, none⟩ = some u1 := by have := hcell 1 u1 rfl; simpa using this
          have c2' : wr.cell? ⟨g, k * 3 + 2, none⟩ = some u2 := by have := hcell 2 u2 rfl; simpa using this
          have e0 : wr.frozen? ⟨g, k * 3, none⟩ = false := by have := f1; simpa using this
          have e1 : wr.frozen? ⟨g, k * 3 + 1, none⟩ = false := by have := f2; simpa using this
          have e2 : wr.frozen? ⟨g, k * 3 + 2, none⟩ = false := by have := f3; simpa using this
          have hM' : Hid ((((wr.setCell ⟨g, k * 3 + 0, none⟩ (.string ⟨#[]⟩)).setCell ⟨g, k * 3 + 1, none⟩ (.bool false)).setCell ⟨g, k * 3 + 2, none⟩ (.string ⟨#[]⟩)).heap[M]? = some (.cells #[.int .i64 s, .slice (some ⟨g, 0, none⟩) cs.length c3] 28)) := OwnR.keep HO.out G3.out HM.out (by decide)
          have hP' : Hid (OwnB (((wr.setCell ⟨g, k * 3 + 0, none⟩ (.string ⟨#[]⟩)).setCell ⟨g, k * 3 + 1, none⟩ (.bool false)).setCell ⟨g, k * 3 + 2, none⟩ (.string ⟨#[]⟩)) W.heap.size (.slice ap np cp) P) := World.ownsRow.kept HP.out G3.out (own_own_ne HP.out HO.out.2 (by decide))
          have hQ' : Hid (OwnB (((wr.setCell ⟨g, k * 3 + 0, none⟩ (.string ⟨#[]⟩)).setCell ⟨g, k * 3 + 1, none⟩ (.bool false)).setCell ⟨g, k * 3 + 2, none⟩ (.string ⟨#[]⟩)) W.heap.size (.slice aq nq cq) P) := World.ownsRow.kept HQ.out G3.out (own_own_ne HQ.out HO.out.2 (by decide))
          have hU' : Hid (Below w.heap.size w (((wr.setCell ⟨g, k * 3 + 0, none⟩ (.string ⟨#[]⟩)).setCell ⟨g, k * 3 + 1, none⟩ (.bool false)).setCell ⟨g, k * 3 + 2, none⟩ (.string ⟨#[]⟩))) := HU.out.grown G3.out HU.out.size (fun j hj => by have h9 := (HO.out.2.lt g rfl).1; have := S1.out; injection hj with hj; omega)
          have LN' : Hid ((((rows.set k ((rows.getD k []).set 0 (.string ⟨#[]⟩))).set k (((rows.set k ((rows.getD k []).set 0 (.string ⟨#[]⟩))).getD k []).set 1 (.bool false))).set k ((((rows.set k ((rows.getD k []).set 0 (.string ⟨#[]⟩))).set k (((rows.set k ((rows.getD k []).set 0 (.string ⟨#[]⟩))).getD k []).set 1 (.bool false))).getD k []).set 2 (.string ⟨#[]⟩))).length = cs.length) := by unfold Hid; rw [List.length_set, List.length_set, List.length_set]; exact hln
          clear k1 k2 k3 g1 g2 g3 f1 f2 f3 g123 hr hcell hrow
          simp only [Nat.add_zero] at K3 G3 hM' hP' hQ' hU'
          clear HO HM HP HQ HU G3 HLn hln
          go_wp2
          exact ⟨⟨k + 1, _, hlt, by go_num, LN', K3, hM', hP', hQ', hU'⟩, by simp [intOf]; omega⟩
        · have hlt' : ¬ (k : Int) < (cs.length : Int) := by omega
          have VP : Hid (Octs wr (.slice ap np cp) P) := Octs.own HP.out HPX.out
          have VQ : Hid (Octs wr (.slice aq nq cq) P) := Octs.own HQ.out HPX.out
          clear HP HQ HO HM
          go_wp2_with fail
          refine (num_any _ _).mono ?_
          rintro e w8 ⟨rfl, rfl⟩
          go_wp2_with fail
          refine (same_any P P _ _ _ VP.out VQ.out).mono ?_
          rintro e w9 ⟨rfl, rfl⟩
          go_wp2
          go_ret
          exact ⟨ret_bool (by simp), HU.out⟩
    · have HPX : Hid (∀ y ∈ ([] : List Int), 0 ≤ y ∧ y ≤ 255) := by intro y hy; cases hy
      refine (add_bad s cs a3 c3 a2 l.length c2 W RD.out.own.read hz).mono ?_
      rintro e w4 ⟨rfl, b4⟩
      have RD4 : Hid (Made w w4 w1.heap.size M s cs l a c a2 c2 a3 c3) := RD.out.upw b4
      have y0 : w4.cell? ⟨w.heap.size, 0, none⟩ = some (.int .i64 s) := blk_cell RD4.out.box 0 _ rfl
      have y1 : w4.cell? ⟨w.heap.size, 1, none⟩ = some (.slice a cs.length c) := blk_cell RD4.out.box 1 _ rfl
      have hz1 : (checkOf s cs == 0) = false := by simp [hz]
      go_wp2_with fail
      refine (refAdd_bad s cs a c al l.length cl w4 (HV.out.up RD4.out.up) hz).mono ?_
      rintro e w5 ⟨rfl, b5⟩
      have U5 : Hid (Below W.heap.size W w5) := up_trans b4 b5
      have OP : Hid (OwnB w5 W.heap.size (.slice none 0 0) []) := OwnB.nil _ _
      have OQ : Hid (OwnB w5 W.heap.size (.slice none 0 0) []) := OwnB.nil _ _
      clear RD4 b4 b5
      have RD5 : Hid (Made w w5 w1.heap.size M s cs l a c a2 c2 a3 c3) := RD.out.upw U5.out
      have LT5 : Hid (∀ g, (Value.slice a2 l.length c2).ownBlock = some g → g < W.heap.size) := fun g hg => (RD.out.log.lt g hg).2
      have SW5 : Hid (W.heap.size ≤ w5.heap.size) := U5.out.size
      clear RD x0 x1 y0 y1
      go_wp2_with fail
      refine (spoil_any l _ w5 _ RD5.out.log HX.out hlb).mono ?_
      rintro e w6 ⟨⟨u6, rfl⟩, g6⟩
      have OP6 : Hid (OwnB w6 W.heap.size (.slice none 0 0) []) := World.ownsRow.kept OP.out g6 (by
        cases h : (Value.slice none 0 0).ownBlock with
        | none => exact .inl rfl
        | some g =>
          refine .inr fun e => ?_
          have := (OP.out.lt g h).1
          have := LT5.out g e.symm
          omega)
      have OQ6 : Hid (OwnB w6 W.heap.size (.slice none 0 0) []) := World.ownsRow.kept OQ.out g6 (by
        cases h : (Value.slice none 0 0).ownBlock with
        | none => exact .inl rfl
        | some g =>
          refine .inr fun e => ?_
          have := (OQ.out.lt g h).1
          have := LT5.out g e.symm
          omega)
      have MB6 : Hid (w6.heap[M]? = some (.cells #[.int .i64 s, .slice a3 cs.length c3] 28)) := (Keep5.grown RD5.out.log g6) _ _ _ _ RD5.out.blk (by decide)
      have OC6 : Hid (OwnC w6 w1.heap.size (.slice a3 cs.length c3) cs) := OwnR.far RD5.out.own g6 (own_own_ne RD5.out.own.2 RD5.out.log (by decide))
      have U6 : Hid (Below w.heap.size w w6) := RD5.out.up.grown g6 RD5.out.up.size (fun j hj => by have := (RD5.out.log.lt j hj).1; have := S1.out; omega)
      clear g6 OP OQ RD5 LT5 U5
      go_wp2_with fail
      go_loopw [11] (fun i wr => ∃ (k : Nat) (rows : List (List Value)), k ≤ cs.length ∧ i = .int .i64 k ∧ Hid (rows.length = cs.length) ∧ Hid (OwnR wr w1.heap.size 37 3 (.slice a3 cs.length c3) rows) ∧ Hid (wr.heap[M]? = some (.cells #[.int .i64 s, .slice a3 cs.length c3] 28)) ∧ Hid (OwnB wr W.heap.size (.slice none 0 0) []) ∧ Hid (OwnB wr W.heap.size (.slice none 0 0) []) ∧ Hid (Below w.heap.size w wr)) (fun i _ => cs.length - (intOf i).toNat)
      case atStart => exact ⟨0, cs.map crow, Nat.zero_le _, rfl, by unfold Hid; simp, OC6, MB6, OP6, OQ6, U6⟩
      case round =>
        clear OC6 MB6 OP6 OQ6 U6
        obtain ⟨k, rows, hk, rfl, HLn, HO, HM, HP, HQ, HU⟩ := hrel
        have m1 : wr.cell? ⟨M, 1, none⟩ = some (.slice a3 cs.length c3) := blk_cell HM.out 1 _ rfl
        by_cases hlt : k < cs.length
        · have hlt' : (k : Int) < (cs.length : Int) := by omega
          have hln := HLn.out
          obtain ⟨g, rfl, hcc⟩ : ∃ g, a3 = some ⟨g, 0, none⟩ ∧ cs.length ≤ c3 := by
            rcases HO.out.2.2 with ⟨h1, h2⟩ | ⟨g, c', cur, h1, _, _, h2, h3, _⟩
            · omega
            · simp only [Value.slice.injEq] at h1
              exact ⟨g, h1.1, by rw [h1.2.2]; omega⟩
          obtain ⟨k1, g1, f1⟩ := HO.out.set hln k hlt 0 (by decide) (.string ⟨#[]⟩)
          obtain ⟨k2, g2, f2⟩ := k1.set (by rw [List.length_set]; exact hln) k hlt 1 (by decide) (.bool false)
          obtain ⟨k3, g3, f3⟩ := k2.set (by rw [List.length_set, List.length_set]; exact hln) k hlt 2 (by decide) (.string ⟨#[]⟩)
          have g123 := grown_trans (grown_trans g1 g2) g3
          have K3 : Hid (OwnR (((wr.setCell ⟨g, k * 3 + 0, none⟩ (.string ⟨#[]⟩)).setCell ⟨g, k * 3 + 1, none⟩ (.bool false)).setCell ⟨g, k * 3 + 2, none⟩ (.string ⟨#[]⟩)) w1.heap.size 37 3 (.slice (some ⟨g, 0, none⟩) cs.length c3) _) := k3
          have G3 : Hid (wr.grownBy (((wr.setCell ⟨g, k * 3 + 0, none⟩ (.string ⟨#[]⟩)).setCell ⟨g, k * 3 + 1, none⟩ (.bool false)).setCell ⟨g, k * 3 + 2, none⟩ (.string ⟨#[]⟩)) (some g)) := g123
          have hr := Rws.own HO.out
          obtain ⟨b', off', cap', e', _, _, hcell⟩ := hr.at k (by omega)
          simp only [Value.slice.injEq, Option.some.injEq, Addr.mk.injEq] at e'
          obtain ⟨⟨rfl, rfl, _⟩, _, _⟩ := e'
          obtain ⟨u0, u1, u2, hrow⟩ : ∃ u0 u1 u2, rows.getD k [] = [u0, u1, u2] := by
            have h3 := hr.1 (rows.getD k []) (by simp [List.getD, show k < rows.length by omega])
            match rows.getD k [], h3 with
            | [u0, u1, u2], _ => exact ⟨u0, u1, u2, rfl⟩
          rw [hrow] at hcell
          have c0 : wr.cell? ⟨g, k * 3, none⟩ = some u0 := by have := hcell 0 u0 rfl; simpa using this
          have c1 : wr.cell? ⟨g, k * 3 + 1, none⟩ = some u1 := by have := hcell 1 u1 rfl; simpa using this
          have c2' : wr.cell? ⟨g, k * 3 + 2, none⟩ = some u2 := by have := hcell 2 u2 rfl; simpa using this
          have e0 : wr.frozen? ⟨g, k * 3, none⟩ = false := by have := f1; simpa using this
          have e1 : wr.frozen? ⟨g, k * 3 + 1, none⟩ = false := by have := f2; simpa using this
          have e2 : wr.frozen? ⟨g, k * 3 + 2, none⟩ = false := by have := f3; simpa using this
          have hM' : Hid ((((wr.setCell ⟨g, k * 3 + 0, none⟩ (.string ⟨#[]⟩)).setCell ⟨g, k * 3 + 1, none⟩ (.bool false)).setCell ⟨g, k * 3 + 2, none⟩ (.string ⟨#[]⟩)).heap[M]? = some (.cells #[.int .i64 s, .slice (some ⟨g, 0, none⟩) cs.length c3] 28)) := OwnR.keep HO.out G3.out HM.out (by decide)
          have hP' : Hid (OwnB (((wr.setCell ⟨g, k * 3 + 0, none⟩ (.string ⟨#[]⟩)).setCell ⟨g, k * 3 + 1, none⟩ (.bool false)).setCell ⟨g, k * 3 + 2, none⟩ (.string ⟨#[]⟩)) W.heap.size (.slice none 0 0) []) := World.ownsRow.kept HP.out G3.out (own_own_ne HP.out HO.out.2 (by decide))
          have hQ' : Hid (OwnB (((wr.setCell ⟨g, k * 3 + 0, none⟩ (.string ⟨#[]⟩)).setCell ⟨g, k * 3 + 1, none⟩ (.bool false)).setCell ⟨g, k * 3 + 2, none⟩ (.string ⟨#[]⟩)) W.heap.size (.slice none 0 0) []) := World.ownsRow.kept HQ.out G3.out (own_own_ne HQ.out HO.out.2 (by decide))
          have hU' : Hid (Below w.heap.size w (((wr.setCell ⟨g, k * 3 + 0, none⟩ (.string ⟨#[]⟩)).setCell ⟨g, k * 3 + 1, none⟩ (.bool false)).setCell ⟨g, k * 3 + 2, none⟩ (.string ⟨#[]⟩))) := HU.out.grown G3.out HU.out.size (fun j hj => by have h9 := (HO.out.2.lt g rfl).1; have := S1.out; injection hj with hj; omega)
          have LN' : Hid ((((rows.set k ((rows.getD k []).set 0 (.string ⟨#[]⟩))).set k (((rows.set k ((rows.getD k []).set 0 (.string ⟨#[]⟩))).getD k []).set 1 (.bool false))).set k ((((rows.set k ((rows.getD k []).set 0 (.string ⟨#[]⟩))).set k (((rows.set k ((rows.getD k []).set 0 (.string ⟨#[]⟩))).getD k []).set 1 (.bool false))).getD k []).set 2 (.string ⟨#[]⟩))).length = cs.length) := by unfold Hid; rw [List.length_set, List.length_set, List.length_set]; exact hln
          clear k1 k2 k3 g1 g2 g3 f1 f2 f3 g123 hr hcell hrow
          simp only [Nat.add_zero] at K3 G3 hM' hP' hQ' hU'
          clear HO HM HP HQ HU G3 HLn hln
          go_wp2
          exact ⟨⟨k + 1, _, hlt, by go_num, LN', K3, hM', hP', hQ', hU'⟩, by simp [intOf]; omega⟩
        · have hlt' : ¬ (k : Int) < (cs.length : Int) := by omega
          have VP : Hid (Octs wr (.slice none 0 0) []) := Octs.own HP.out HPX.out
          have VQ : Hid (Octs wr (.slice none 0 0) []) := Octs.own HQ.out HPX.out
          clear HP HQ HO HM
          go_wp2_with fail
          refine (num_any _ _).mono ?_
          rintro e w8 ⟨rfl, rfl⟩
          go_wp2_with fail
          refine (same_any [] [] _ _ _ VP.out VQ.out).mono ?_
          rintro e w9 ⟨rfl, rfl⟩
          go_wp2
          go_ret
          exact ⟨ret_bool (by simp), HU.out⟩
  · have RD : Hid (Made w (set2 w3 w1.heap.size (.int .i64 s) (.slice a3 cs.length c3)) w1.heap.size w1.heap.size s cs l a c a2 c2 a3 c3) := ⟨set2_blk mb3 _ _, OwnC.mono (base := w1.heap.size + 1) ((O3.out.mono (by have := X2.out.size; simp at this; omega)).kept (set2_grown _ _ _ _) (fun g hg => by injection hg with hg; omega)) (by omega), World.ownsRow.kept (own_up O2.out X3.out) (set2_grown _ _ _ _) (own_blk_ne (own_up O2.out X3.out) mb3 (by decide)), blk_grown (blk_up D1.out U3.out) (set2_grown _ _ _ _) (by have := S1.out; simp; omega), (up_trans U1.out U3.out).grown (set2_grown _ _ _ _) (up_trans U1.out U3.out).size (fun g hg => by have := S1.out; injection hg with hg; omega), Nat.le_refl _, S1.out⟩
    clear HC5 HC6 HBD HBA HZ HA0 HSS O2 U2 X2 O3 U3 X3 yy tt D1 y0 y1 t0 t1 z0 z1 mb mb3 q0 q1 f0 f1 r0 r1 h0 h1
    have RD' : Hid (Made w ((w3.setCell ⟨w1.heap.size, 0, none⟩ (.int .i64 s)).setCell ⟨w1.heap.size, 1, none⟩ (.slice a3 cs.length c3)) w1.heap.size w1.heap.size s cs l a c a2 c2 a3 c3) := RD
    clear RD
    have HX : Hid (∀ y ∈ l, 0 ≤ y ∧ y ≤ 255) := HLo.out.1
    have x0 : ((w3.setCell ⟨w1.heap.size, 0, none⟩ (.int .i64 s)).setCell ⟨w1.heap.size, 1, none⟩ (.slice a3 cs.length c3)).cell? ⟨w1.heap.size, 0, none⟩ = some (.int .i64 s) := blk_cell RD'.out.blk 0 _ rfl
    have x1 : ((w3.setCell ⟨w1.heap.size, 0, none⟩ (.int .i64 s)).setCell ⟨w1.heap.size, 1, none⟩ (.slice a3 cs.length c3)).cell? ⟨w1.heap.size, 1, none⟩ = some (.slice a3 cs.length c3) := blk_cell RD'.out.blk 1 _ rfl
    generalize ((w3.setCell ⟨w1.heap.size, 0, none⟩ (.int .i64 s)).setCell ⟨w1.heap.size, 1, none⟩ (.slice a3 cs.length c3)) = W at *
    generalize hMq : w1.heap.size = M at *
    clear hMq
    have RD : Hid (Made w W M M s cs l a c a2 c2 a3 c3) := RD'
    clear RD'
    go_wp2_with fail
    by_cases hz : checkOf s cs = 0
    · have HPX : Hid (∀ y ∈ l ++ frameOf 1 (encOf s cs), 0 ≤ y ∧ y ≤ 255) := by
        intro y hy
        rcases List.mem_append.1 hy with q | q
        · exact HX.out y q
        · exact frame_octs s cs hz y q
      refine (add_good s cs a3 c3 l a2 c2 W RD.out.own.read (Octs.own RD.out.log HX.out) hlb hz).mono ?_
      rintro e w4 ⟨ap, np, cp, rfl, P4, B4⟩
      have RD4 : Hid (Made w w4 M M s cs l a c a2 c2 a3 c3) := RD.out.upw B4.out
      have y0 : w4.cell? ⟨w.heap.size, 0, none⟩ = some (.int .i64 s) := blk_cell RD4.out.box 0 _ rfl
      have y1 : w4.cell? ⟨w.heap.size, 1, none⟩ = some (.slice a cs.length c) := blk_cell RD4.out.box 1 _ rfl
      go_wp2_with fail
      refine (refAdd_good s cs a c l al cl w4 (HV.out.up RD4.out.up) (HLo.out.up RD4.out.up) hlb hz).mono ?_
      rintro e w5 ⟨aq, nq, cq, rfl, Q5, B5⟩
      have U5 : Hid (Below W.heap.size W w5) := up_trans B4.out B5.out
      have OP : Hid (OwnB w5 W.heap.size (.slice ap np cp) (l ++ frameOf 1 (encOf s cs))) := own_up P4.out B5.out
      have OQ : Hid (OwnB w5 W.heap.size (.slice aq nq cq) (l ++ frameOf 1 (encOf s cs))) := OwnB.mono Q5.out B4.out.size
      generalize hPP : l ++ frameOf 1 (encOf s cs) = P at *
      clear P4 Q5 B4 B5 RD4 hPP hz
      have RD5 : Hid (Made w w5 M M s cs l a c a2 c2 a3 c3) := RD.out.upw U5.out
      have LT5 : Hid (∀ g, (Value.slice a2 l.length c2).ownBlock = some g → g < W.heap.size) := fun g hg => (RD.out.log.lt g hg).2
      have SW5 : Hid (W.heap.size ≤ w5.heap.size) := U5.out.size
      clear RD x0 x1 y0 y1
      go_wp2_with fail
      refine (spoil_any l _ w5 _ RD5.out.log HX.out hlb).mono ?_
      rintro e w6 ⟨⟨u6, rfl⟩, g6⟩
      have OP6 : Hid (OwnB w6 W.heap.size (.slice ap np cp) P) := World.ownsRow.kept OP.out g6 (by
        cases h : (Value.slice ap np cp).ownBlock with
        | none => exact .inl rfl
        | some g =>
          refine .inr fun e => ?_
          have := (OP.out.lt g h).1
          have := LT5.out g e.symm
          omega)
      have OQ6 : Hid (OwnB w6 W.heap.size (.slice aq nq cq) P) := World.ownsRow.kept OQ.out g6 (by
        cases h : (Value.slice aq nq cq).ownBlock with
        | none => exact .inl rfl
        | some g =>
          refine .inr fun e => ?_
          have := (OQ.out.lt g h).1
          have := LT5.out g e.symm
          omega)
      have MB6 : Hid (w6.heap[M]? = some (.cells #[.int .i64 s, .slice a3 cs.length c3] 28)) := (Keep5.grown RD5.out.log g6) _ _ _ _ RD5.out.blk (by decide)
      have OC6 : Hid (OwnC w6 M (.slice a3 cs.length c3) cs) := OwnR.far RD5.out.own g6 (own_own_ne RD5.out.own.2 RD5.out.log (by decide))
      have U6 : Hid (Below w.heap.size w w6) := RD5.out.up.grown g6 RD5.out.up.size (fun j hj => by have := (RD5.out.log.lt j hj).1; have := S1.out; omega)
      clear g6 OP OQ RD5 LT5 U5
      go_wp2_with fail
      go_loopw [11] (fun i wr => ∃ (k : Nat) (rows : List (List Value)), k ≤ cs.length ∧ i = .int .i64 k ∧ Hid (rows.length = cs.length) ∧ Hid (OwnR wr M 37 3 (.slice a3 cs.length c3) rows) ∧ Hid (wr.heap[M]? = some (.cells #[.int .i64 s, .slice a3 cs.length c3] 28)) ∧ Hid (OwnB wr W.heap.size (.slice ap np cp) P) ∧ Hid (OwnB wr W.heap.size (.slice aq nq cq) P) ∧ Hid (Below w.heap.size w wr)) (fun i _ => cs.length - (intOf i).toNat)
      case atStart => exact ⟨0, cs.map crow, Nat.zero_le _, rfl, by unfold Hid; simp, OC6, MB6, OP6, OQ6, U6⟩
      case round =>
        clear OC6 MB6 OP6 OQ6 U6
        obtain ⟨k, rows, hk, rfl, HLn, HO, HM, HP, HQ, HU⟩ := hrel
        have m1 : wr.cell? ⟨M, 1, none⟩ = some (.slice a3 cs.length c3) := blk_cell HM.out 1 _ rfl
        by_cases hlt : k < cs.length
        · have hlt' : (k : Int) < (cs.length : Int) := by omega
          have hln := HLn.out
          obtain ⟨g, rfl, hcc⟩ : ∃ g, a3 = some ⟨g, 0, none⟩ ∧ cs.length ≤ c3 := by
            rcases HO.out.2.2 with ⟨h1, h2⟩ | ⟨g, c', cur, h1, _, _, h2, h3, _⟩
            · omega
            · simp only [Value.slice.injEq] at h1
              exact ⟨g, h1.1, by rw [h1.2.2]; omega⟩
          obtain ⟨k1, g1, f1⟩ := HO.out.set hln k hlt 0 (by decide) (.string ⟨#[]⟩)
          obtain ⟨k2, g2, f2⟩ := k1.set (by rw [List.length_set]; exact hln) k hlt 1 (by decide) (.bool false)
          obtain ⟨k3, g3, f3⟩ := k2.set (by rw [List.length_set, List.length_set]; exact hln) k hlt 2 (by decide) (.string ⟨#[]⟩)
          have g123 := grown_trans (grown_trans g1 g2) g3
          have K3 : Hid (OwnR (((wr.setCell ⟨g, k * 3 + 0, none⟩ (.string ⟨#[]⟩)).setCell ⟨g, k * 3 + 1, none⟩ (.bool false)).setCell ⟨g, k * 3 + 2, none⟩ (.string ⟨#[]⟩)) M 37 3 (.slice (some ⟨g, 0, none⟩) cs.length c3) _) := k3
          have G3 : Hid (wr.grownBy (((wr.setCell ⟨g, k * 3 + 0, none⟩ (.string ⟨#[]⟩)).setCell ⟨g, k * 3 + 1, none⟩ (.bool false)).setCell ⟨g, k * 3 + 2, none⟩ (.string ⟨#[]⟩)) (some g)) := g123
          have hr := Rws.own HO.out
          obtain ⟨b', off', cap', e', _, _, hcell⟩ := hr.at k (by omega)
          simp only [Value.slice.injEq, Option.some.injEq, Addr.mk.injEq] at e'
          obtain ⟨⟨rfl, rfl, _⟩, _, _⟩ := e'
          obtain ⟨u0, u1, u2, hrow⟩ : ∃ u0 u1 u2, rows.getD k [] = [u0, u1, u2] := by
            have h3 := hr.1 (rows.getD k []) (by simp [List.getD, show k < rows.length by omega])
            match rows.getD k [], h3 with
            | [u0, u1, u2], _ => exact ⟨u0, u1, u2, rfl⟩
          rw [hrow] at hcell
          have c0 : wr.cell? ⟨g, k * 3, none⟩ = some u0 := by have := hcell 0 u0 rfl; simpa using this
          have c1 : wr.cell? ⟨g, k * 3 + 1, none⟩ = some u1 := by have := hcell 1 u1 rfl; simpa using this
          have c2' : wr.cell? ⟨g, k * 3 + 2, none⟩ = some u2 := by have := hcell 2 u2 rfl; simpa using this
          have e0 : wr.frozen? ⟨g, k * 3, none⟩ = false := by have := f1; simpa using this
          have e1 : wr.frozen? ⟨g, k * 3 + 1, none⟩ = false := by have := f2; simpa using this
          have e2 : wr.frozen? ⟨g, k * 3 + 2, none⟩ = false := by have := f3; simpa using this
          have hM' : Hid ((((wr.setCell ⟨g, k * 3 + 0, none⟩ (.string ⟨#[]⟩)).setCell ⟨g, k * 3 + 1, none⟩ (.bool false)).setCell ⟨g, k * 3 + 2, none⟩ (.string ⟨#[]⟩)).heap[M]? = some (.cells #[.int .i64 s, .slice (some ⟨g, 0, none⟩) cs.length c3] 28)) := OwnR.keep HO.out G3.out HM.out (by decide)
          have hP' : Hid (OwnB (((wr.setCell ⟨g, k * 3 + 0, none⟩ (.string ⟨#[]⟩)).setCell ⟨g, k * 3 + 1, none⟩ (.bool false)).setCell ⟨g, k * 3 + 2, none⟩ (.string ⟨#[]⟩)) W.heap.size (.slice ap np cp) P) := World.ownsRow.kept HP.out G3.out (own_own_ne HP.out HO.out.2 (by decide))
          have hQ' : Hid (OwnB (((wr.setCell ⟨g, k * 3 + 0, none⟩ (.string ⟨#[]⟩)).setCell ⟨g, k * 3 + 1, none⟩ (.bool false)).setCell ⟨g, k * 3 + 2, none⟩ (.string ⟨#[]⟩)) W.heap.size (.slice aq nq cq) P) := World.ownsRow.kept HQ.out G3.out (own_own_ne HQ.out HO.out.2 (by decide))
          have hU' : Hid (Below w.heap.size w (((wr.setCell ⟨g, k * 3 + 0, none⟩ (.string ⟨#[]⟩)).setCell ⟨g, k * 3 + 1, none⟩ (.bool false)).setCell ⟨g, k * 3 + 2, none⟩ (.string ⟨#[]⟩))) := HU.out.grown G3.out HU.out.size (fun j hj => by have h9 := (HO.out.2.lt g rfl).1; have := S1.out; injection hj with hj; omega)
          have LN' : Hid ((((rows.set k ((rows.getD k []).set 0 (.string ⟨#[]⟩))).set k (((rows.set k ((rows.getD k []).set 0 (.string ⟨#[]⟩))).getD k []).set 1 (.bool false))).set k ((((rows.set k ((rows.getD k []).set 0 (.string ⟨#[]⟩))).set k (((rows.set k ((rows.getD k []).set 0 (.string ⟨#[]⟩))).getD k []).set 1 (.bool false))).getD k []).set 2 (.string ⟨#[]⟩))).length = cs.length) := by unfold Hid; rw [List.length_set, List.length_set, List.length_set]; exact hln
          clear k1 k2 k3 g1 g2 g3 f1 f2 f3 g123 hr hcell hrow
          simp only [Nat.add_zero] at K3 G3 hM' hP' hQ' hU'
          clear HO HM HP HQ HU G3 HLn hln
          go_wp2
          exact ⟨⟨k + 1, _, hlt, by go_num, LN', K3, hM', hP', hQ', hU'⟩, by simp [intOf]; omega⟩
        · have hlt' : ¬ (k : Int) < (cs.length : Int) := by omega
          have VP : Hid (Octs wr (.slice ap np cp) P) := Octs.own HP.out HPX.out
          have VQ : Hid (Octs wr (.slice aq nq cq) P) := Octs.own HQ.out HPX.out
          clear HP HQ HO HM
          go_wp2_with fail
          refine (num_any _ _).mono ?_
          rintro e w8 ⟨rfl, rfl⟩
          go_wp2_with fail
          refine (same_any P P _ _ _ VP.out VQ.out).mono ?_
          rintro e w9 ⟨rfl, rfl⟩
          go_wp2
          go_ret
          exact ⟨ret_bool (by simp), HU.out⟩
    · have HPX : Hid (∀ y ∈ ([] : List Int), 0 ≤ y ∧ y ≤ 255) := by intro y hy; cases hy
      refine (add_bad s cs a3 c3 a2 l.length c2 W RD.out.own.read hz).mono ?_
      rintro e w4 ⟨rfl, b4⟩
      have RD4 : Hid (Made w w4 M M s cs l a c a2 c2 a3 c3) := RD.out.upw b4
      have y0 : w4.cell? ⟨w.heap.size, 0, none⟩ = some (.int .i64 s) := blk_cell RD4.out.box 0 _ rfl
      have y1 : w4.cell? ⟨w.heap.size, 1, none⟩ = some (.slice a cs.length c) := blk_cell RD4.out.box 1 _ rfl
      have hz1 : (checkOf s cs == 0) = false := by simp [hz]
      go_wp2_with fail
      refine (refAdd_bad s cs a c al l.length cl w4 (HV.out.up RD4.out.up) hz).mono ?_
      rintro e w5 ⟨rfl, b5⟩
      have U5 : Hid (Below W.heap.size W w5) := up_trans b4 b5
      have OP : Hid (OwnB w5 W.heap.size (.slice none 0 0) []) := OwnB.nil _ _
      have OQ : Hid (OwnB w5 W.heap.size (.slice none 0 0) []) := OwnB.nil _ _
      clear RD4 b4 b5
      have RD5 : Hid (Made w w5 M M s cs l a c a2 c2 a3 c3) := RD.out.upw U5.out
      have LT5 : Hid (∀ g, (Value.slice a2 l.length c2).ownBlock = some g → g < W.heap.size) := fun g hg => (RD.out.log.lt g hg).2
      have SW5 : Hid (W.heap.size ≤ w5.heap.size) := U5.out.size
      clear RD x0 x1 y0 y1
      go_wp2_with fail
      refine (spoil_any l _ w5 _ RD5.out.log HX.out hlb).mono ?_
      rintro e w6 ⟨⟨u6, rfl⟩, g6⟩
      have OP6 : Hid (OwnB w6 W.heap.size (.slice none 0 0) []) := World.ownsRow.kept OP.out g6 (by
        cases h : (Value.slice none 0 0).ownBlock with
        | none => exact .inl rfl
        | some g =>
          refine .inr fun e => ?_
          have := (OP.out.lt g h).1
          have := LT5.out g e.symm
          omega)
      have OQ6 : Hid (OwnB w6 W.heap.size (.slice none 0 0) []) := World.ownsRow.kept OQ.out g6 (by
        cases h : (Value.slice none 0 0).ownBlock with
        | none => exact .inl rfl
        | some g =>
          refine .inr fun e => ?_
          have := (OQ.out.lt g h).1
          have := LT5.out g e.symm
          omega)
      have MB6 : Hid (w6.heap[M]? = some (.cells #[.int .i64 s, .slice a3 cs.length c3] 28)) := (Keep5.grown RD5.out.log g6) _ _ _ _ RD5.out.blk (by decide)
      have OC6 : Hid (OwnC w6 M (.slice a3 cs.length c3) cs) := OwnR.far RD5.out.own g6 (own_own_ne RD5.out.own.2 RD5.out.log (by decide))
      have U6 : Hid (Below w.heap.size w w6) := RD5.out.up.grown g6 RD5.out.up.size (fun j hj => by have := (RD5.out.log.lt j hj).1; have := S1.out; omega)
      clear g6 OP OQ RD5 LT5 U5
      go_wp2_with fail
      go_loopw [11] (fun i wr => ∃ (k : Nat) (rows : List (List Value)), k ≤ cs.length ∧ i = .int .i64 k ∧ Hid (rows.length = cs.length) ∧ Hid (OwnR wr M 37 3 (.slice a3 cs.length c3) rows) ∧ Hid (wr.heap[M]? = some (.cells #[.int .i64 s, .slice a3 cs.length c3] 28)) ∧ Hid (OwnB wr W.heap.size (.slice none 0 0) []) ∧ Hid (OwnB wr W.heap.size (.slice none 0 0) []) ∧ Hid (Below w.heap.size w wr)) (fun i _ => cs.length - (intOf i).toNat)
      case atStart => exact ⟨0, cs.map crow, Nat.zero_le _, rfl, by unfold Hid; simp, OC6, MB6, OP6, OQ6, U6⟩
      case round =>
        clear OC6 MB6 OP6 OQ6 U6
        obtain ⟨k, rows, hk, rfl, HLn, HO, HM, HP, HQ, HU⟩ := hrel
        have m1 : wr.cell? ⟨M, 1, none⟩ = some (.slice a3 cs.length c3) := blk_cell HM.out 1 _ rfl
        by_cases hlt : k < cs.length
        · have hlt' : (k : Int) < (cs.length : Int) := by omega
          have hln := HLn.out
          obtain ⟨g, rfl, hcc⟩ : ∃ g, a3 = some ⟨g, 0, none⟩ ∧ cs.length ≤ c3 := by
            rcases HO.out.2.2 with ⟨h1, h2⟩ | ⟨g, c', cur, h1, _, _, h2, h3, _⟩
            · omega
            · simp only [Value.slice.injEq] at h1
              exact ⟨g, h1.1, by rw [h1.2.2]; omega⟩
          obtain ⟨k1, g1, f1⟩ := HO.out.set hln k hlt 0 (by decide) (.string ⟨#[]⟩)
          obtain ⟨k2, g2, f2⟩ := k1.set (by rw [List.length_set]; exact hln) k hlt 1 (by decide) (.bool false)
          obtain ⟨k3, g3, f3⟩ := k2.set (by rw [List.length_set, List.length_set]; exact hln) k hlt 2 (by decide) (.string ⟨#[]⟩)
          have g123 := grown_trans (grown_trans g1 g2) g3
          have K3 : Hid (OwnR (((wr.setCell ⟨g, k * 3 + 0, none⟩ (.string ⟨#[]⟩)).setCell ⟨g, k * 3 + 1, none⟩ (.bool false)).setCell ⟨g, k * 3 + 2, none⟩ (.string ⟨#[]⟩)) M 37 3 (.slice (some ⟨g, 0, none⟩) cs.length c3) _) := k3
          have G3 : Hid (wr.grownBy (((wr.setCell ⟨g, k * 3 + 0, none⟩ (.string ⟨#[]⟩)).setCell ⟨g, k * 3 + 1, none⟩ (.bool false)).setCell ⟨g, k * 3 + 2, none⟩ (.string ⟨#[]⟩)) (some g)) := g123
          have hr := Rws.own HO.out
          obtain ⟨b', off', cap', e', _, _, hcell⟩ := hr.at k (by omega)
          simp only [Value.slice.injEq, Option.some.injEq, Addr.mk.injEq] at e'
          obtain ⟨⟨rfl, rfl, _⟩, _, _⟩ := e'
          obtain ⟨u0, u1, u2, hrow⟩ : ∃ u0 u1 u2, rows.getD k [] = [u0, u1, u2] := by
            have h3 := hr.1 (rows.getD k []) (by simp [List.getD, show k < rows.length by omega])
            match rows.getD k [], h3 with
            | [u0, u1, u2], _ => exact ⟨u0, u1, u2, rfl⟩
          rw [hrow] at hcell
          have c0 : wr.cell? ⟨g, k * 3, none⟩ = some u0 := by have := hcell 0 u0 rfl; simpa using this
          have c1 : wr.cell? ⟨g, k * 3 + 1, none⟩ = some u1 := by have := hcell 1 u1 rfl; simpa using this
          have c2' : wr.cell? ⟨g, k * 3 + 2, none⟩ = some u2 := by have := hcell 2 u2 rfl; simpa using this
          have e0 : wr.frozen? ⟨g, k * 3, none⟩ = false := by have := f1; simpa using this
          have e1 : wr.frozen? ⟨g, k * 3 + 1, none⟩ = false := by have := f2; simpa using this
          have e2 : wr.frozen? ⟨g, k * 3 + 2, none⟩ = false := by have := f3; simpa using this
          have hM' : Hid ((((wr.setCell ⟨g, k * 3 + 0, none⟩ (.string ⟨#[]⟩)).setCell ⟨g, k * 3 + 1, none⟩ (.bool false)).setCell ⟨g, k * 3 + 2, none⟩ (.string ⟨#[]⟩)).heap[M]? = some (.cells #[.int .i64 s, .slice (some ⟨g, 0, none⟩) cs.length c3] 28)) := OwnR.keep HO.out G3.out HM.out (by decide)
          have hP' : Hid (OwnB (((wr.setCell ⟨g, k * 3 + 0, none⟩ (.string ⟨#[]⟩)).setCell ⟨g, k * 3 + 1, none⟩ (.bool false)).setCell ⟨g, k * 3 + 2, none⟩ (.string ⟨#[]⟩)) W.heap.size (.slice none 0 0) []) := World.ownsRow.kept HP.out G3.out (own_own_ne HP.out HO.out.2 (by decide))
          have hQ' : Hid (OwnB (((wr.setCell ⟨g, k * 3 + 0, none⟩ (.string ⟨#[]⟩)).setCell ⟨g, k * 3 + 1, none⟩ (.bool false)).setCell ⟨g, k * 3 + 2, none⟩ (.string ⟨#[]⟩)) W.heap.size (.slice none 0 0) []) := World.ownsRow.kept HQ.out G3.out (own_own_ne HQ.out HO.out.2 (by decide))
          have hU' : Hid (Below w.heap.size w (((wr.setCell ⟨g, k * 3 + 0, none⟩ (.string ⟨#[]⟩)).setCell ⟨g, k * 3 + 1, none⟩ (.bool false)).setCell ⟨g, k * 3 + 2, none⟩ (.string ⟨#[]⟩))) := HU.out.grown G3.out HU.out.size (fun j hj => by have h9 := (HO.out.2.lt g rfl).1; have := S1.out; injection hj with hj; omega)
          have LN' : Hid ((((rows.set k ((rows.getD k []).set 0 (.string ⟨#[]⟩))).set k (((rows.set k ((rows.getD k []).set 0 (.string ⟨#[]⟩))).getD k []).set 1 (.bool false))).set k ((((rows.set k ((rows.getD k []).set 0 (.string ⟨#[]⟩))).set k (((rows.set k ((rows.getD k []).set 0 (.string ⟨#[]⟩))).getD k []).set 1 (.bool false))).getD k []).set 2 (.string ⟨#[]⟩))).length = cs.length) := by unfold Hid; rw [List.length_set, List.length_set, List.length_set]; exact hln
          clear k1 k2 k3 g1 g2 g3 f1 f2 f3 g123 hr hcell hrow
          simp only [Nat.add_zero] at K3 G3 hM' hP' hQ' hU'
          clear HO HM HP HQ HU G3 HLn hln
          go_wp2
          exact ⟨⟨k + 1, _, hlt, by go_num, LN', K3, hM', hP', hQ', hU'⟩, by simp [intOf]; omega⟩
        · have hlt' : ¬ (k : Int) < (cs.length : Int) := by omega
          have VP : Hid (Octs wr (.slice none 0 0) []) := Octs.own HP.out HPX.out
          have VQ : Hid (Octs wr (.slice none 0 0) []) := Octs.own HQ.out HPX.out
          clear HP HQ HO HM
          go_wp2_with fail
          refine (num_any _ _).mono ?_
          rintro e w8 ⟨rfl, rfl⟩
          go_wp2_with fail
          refine (same_any [] [] _ _ _ VP.out VQ.out).mono ?_
          rintro e w9 ⟨rfl, rfl⟩
          go_wp2
          go_ret
          exact ⟨ret_bool (by simp), HU.out⟩
end Go.Proofs.Ytgphkddcfcmaiab
