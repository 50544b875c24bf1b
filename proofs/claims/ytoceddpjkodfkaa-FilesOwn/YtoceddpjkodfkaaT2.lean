/- The law's own makers of the program's states: files. -/
import Derived.Test.YtoceddpjkodfkaaT1
import Derived.Deep.RegionHeld3
namespace Go.Proofs.Ytoceddpjkodfkaa
open Go.RowKit
set_option linter.unusedVariables false
set_option linter.unusedSimpArgs false

/-- One file more. -/
theorem OwnF.snoc {w' w6 : World} {base : Nat} {vl : Option Addr} {n cl : Nat} {v6 : Value} {m : List FRow} {y : FRow} (h : OwnF w' base (.slice vl n cl) m) (hb : OwnB w' base y.1 y.2.2.1) (hok : okRow y) (hnew : ∀ z ∈ m, Apart z.1 y.1) (o : Obj) (o6 : OwnR w6 base 71 3 v6 (m.map frow ++ [frow y])) (g6 : (w'.alloc o).grownBy w6 (Value.ownBlock (.slice vl n cl))) : OwnF w6 base v6 (m ++ [y]) := by
  have u := up_al (Below.refl w'.heap.size w') o
  have hr := (h.up u).1
  refine ⟨by rw [List.map_append]; exact o6, ?_, ?_⟩
  · intro z hz
    rcases List.mem_append.1 hz with hz | hz
    · have := (h.up u).2.1 z hz
      exact ⟨this.1.far g6 (own_own_ne this.1 hr.2 (by decide)), this.2⟩
    · simp at hz
      subst hz
      exact ⟨(hb.up u).far g6 (own_own_ne (hb.up u) hr.2 (by decide)), hok⟩
  · rw [List.pairwise_append]
    refine ⟨h.2.2, by simp, ?_⟩
    intro a ha b hb'
    simp at hb'
    subst hb'
    exact hnew a ha

set_option maxHeartbeats 4000000 in
set_option maxRecDepth 2000 in
theorem some_any (l : List (Int × List Int × Int)) (v : Value) (w : World) (hv : FilesW w v l) (hl : l.length * 40 ≤ 140737488351232) :
    Calls Try.prog 30 #[v] w fun e w' => ∃ v', e = .returned v' ∧ ∃ m : List FRow, m.map (·.2) = l ∧ OwnF w' w.heap.size v' m ∧ Below w.heap.size w w' := by
  have HV : Hid (FilesW w v l) := hv
  obtain ⟨an, cn, en, _, _⟩ := hv.len
  subst en
  clear hv
  go_enter Try.func30, Try.ntmps30
  go_wp2_with fail
  go_loopw [3, 4] (fun vb i wr => ∃ (k : Nat) (m : List FRow) (vl : Option Addr) (cl : Nat), k ≤ l.length ∧ i = .int .i64 k ∧ vb = .slice vl k cl ∧ Hid (m.length = k ∧ m.map (·.2) = l.take k) ∧ Hid (OwnF wr w.heap.size (.slice vl k cl) m) ∧ Hid (Below w.heap.size w wr)) (fun _ i _ => l.length - (intOf i).toNat)
  case atStart => exact ⟨0, [], none, 0, Nat.zero_le _, rfl, rfl, ⟨rfl, rfl⟩, ⟨OwnR.nil _ _ _ _, (fun y hy => by cases hy), List.Pairwise.nil⟩, Below.refl _ _⟩
  case round =>
    obtain ⟨k, m, vl, cl, hk, rfl, rfl, HM, HO, up⟩ := hrel
    by_cases hlt : k < l.length
    · have hlt' : (k : Int) < (l.length : Int) := by omega
      obtain ⟨b, off, cap', u, e, _, _, c0, c1, c2, ho, hln, hi1, hi2⟩ := (HV.out.up up.out).at k hlt
      simp at e
      obtain ⟨rfl, rfl⟩ := e
      have HT : Hid (l.take (k + 1) = l.take k ++ [l.getD k (0, [], 0)]) := take_snoc l k _ hlt
      generalize l.getD k (0, [], 0) = y at *
      obtain ⟨yi, yd, ys⟩ := y
      simp only at c0 c1 c2 ho hln hi1 hi2
      obtain ⟨ad, cd, eu, _⟩ := ho.slice
      subst eu
      obtain ⟨dn, hdn⟩ : ∃ dn, dn = yd.length := ⟨_, rfl⟩
      rw [← hdn] at c1
      have HK : Hid (k < l.length) := hlt
      have HBl : Hid (b < w.heap.size) := by
        obtain ⟨b', off', cap2, u', e', _, _, z0, _⟩ := HV.out.at k hlt
        simp at e'
        obtain ⟨⟨rfl, rfl⟩, _⟩ := e'
        exact World.block_lt_of_cell? w _ z0
      have HG : Hid (∀ (w' w6 : World) (o : Obj), OwnF w' w.heap.size (.slice vl k cl) m → (w'.alloc o).grownBy w6 (Value.ownBlock (.slice vl k cl)) → ∀ o2 x, w'.cell? ⟨b, o2, none⟩ = some x → w6.cell? ⟨b, o2, none⟩ = some x) := by
        intro w' w6 o hF hg o2 x hc
        refine hg.cell (Lib.cell?_alloc_marked o hc) ?_
        intro q
        have := (hF.1.2.lt b q.symm).1
        have := HBl.out
        omega
      have HC : Hid (∀ X, Below wr.heap.size wr X → Calls Try.prog 10 #[.slice ad dn cd] X fun e w' => ∃ a2 c2, e = .returned (.slice a2 dn c2) ∧ w'.cell? ⟨b, off + k * 3, none⟩ = some (.int .i64 yi) ∧ w'.cell? ⟨b, off + k * 3 + 1, none⟩ = some (.slice ad dn cd) ∧ w'.cell? ⟨b, off + k * 3 + 2, none⟩ = some (.int .i64 ys) ∧
          Hid (OwnF w' w.heap.size (.slice vl k cl) m ∧ OwnB w' wr.heap.size (.slice a2 dn c2) yd ∧ Below wr.heap.size wr w')) := by
        intro X hX
        have hoX := ho.up hX
        rw [← hdn] at hoX
        refine (copyB_any yd _ X hoX hln).mono ?_
        rintro e w' ⟨v', rfl, ob, hu⟩
        obtain ⟨a2, cc, ev, _⟩ := (Octs.own ob ho.1).slice
        rw [← hdn] at ev
        subst ev
        have uu := up_trans hX hu
        exact ⟨a2, cc, rfl, (uu.cell (World.block_lt_of_cell? wr _ c0)).trans c0, (uu.cell (World.block_lt_of_cell? wr _ c1)).trans c1, (uu.cell (World.block_lt_of_cell? wr _ c2)).trans c2, HO.out.up uu, ob.mono hX.size, uu⟩
      have HY : Hid (okRow (.slice none 0 0, yi, yd, ys)) := ⟨ho.1, hln, hi1, hi2⟩
      have hsz2 : Hid (w.heap.size ≤ wr.heap.size) := up.out.size
      have HL : Hid (l.length * 40 ≤ 140737488351232) := hl
      have HA1 : Hid (∀ (w' : World) (o : Obj), OwnF w' w.heap.size (.slice vl k cl) m → OwnR (w'.alloc o) w.heap.size 71 3 (.slice vl k cl) (m.map frow)) := fun w' o h => (h.up (up_al (Below.refl _ _) o)).1
      have HA2 : Hid (∀ (w' : World) a2 cc, Rws 3 (w'.alloc (.cells #[.int .i64 yi, .slice a2 dn cc, .int .i64 ys] 71)) (.slice (some ⟨w'.heap.size, 0, none⟩) 1 1) [[.int .i64 yi, .slice a2 dn cc, .int .i64 ys]]) := by
        intro w' a2 cc
        have := Rws.made (sz := 3) w' 71 [[.int .i64 yi, .slice a2 dn cc, .int .i64 ys]] (by intro cs hcs; simp at hcs; subst hcs; rfl) (by simp [maxLen])
        simpa using this
      have HA3 : Hid (∀ a2 cc, ∀ cs ∈ [[Value.int .i64 yi, .slice a2 dn cc, .int .i64 ys]], ∀ u ∈ cs, u.oneCell' = true) := by
        intro a2 cc cs hcs u hu
        simp at hcs
        subst hcs
        simp at hu
        rcases hu with rfl | rfl | rfl <;> rfl
      have HA4 : Hid ((((m.map frow).length + 1) + ((m.map frow).length + 1) / 4 + 192) * 40 ≤ 281474976710656 ∧ (m.map frow).length + 1 ≤ maxLen) := by
        rw [List.length_map, HM.out.1]
        have h1 := HL.out
        have h2 := HK.out
        unfold maxLen
        constructor <;> omega
      have HA5 : Hid (∀ (w' : World) (o : Obj), Below wr.heap.size wr w' → w.heap.size ≤ (w'.alloc o).heap.size) := by
        intro w' o h
        have h1 := h.size
        have h2 := hsz2.out
        simp
        omega
      clear ho hln hi1 hi2 hdn hl
      go_upto_region 5 with fail
      go_region_held3 (fun w' => w'.cell? ⟨b, off + k * 3, none⟩ = some (.int .i64 yi) ∧ w'.cell? ⟨b, off + k * 3 + 1, none⟩ = some (.slice ad dn cd) ∧ w'.cell? ⟨b, off + k * 3 + 2, none⟩ = some (.int .i64 ys)) (first | exact ⟨y0, y1, y2⟩ | exact ⟨Lib.cell?_alloc_marked _ y0, Lib.cell?_alloc_marked _ y1, Lib.cell?_alloc_marked _ y2⟩ | exact ⟨t0, t1, t2⟩ | (simp [go_sem, c0, c1, c2]; done)) (first | (go_at_call 10; refine (HC.out _ (by repeat (first | exact Below.refl _ _ | apply up_dr | apply up_al))).mono ?_; rintro e w' ⟨a2, cc, rfl, y0, y1, y2, hs⟩) | (refine step_append_rows _ rfl (.tmp 11) (.tmp 29) 30 71 (.agg #[.int .i64 0, .slice none 0 0, .int .i64 0]) 3 40 rfl Try.underlying30 Try.info71 rfl (by decide) w.heap.size (.slice vl k cl) (m.map frow) rfl (HA1.out _ _ hs.out.1) _ [[.int .i64 yi, .slice a2 dn cc, .int .i64 ys]] rfl (HA2.out _ _ _) (HA3.out _ _) HA4.out.1 HA4.out.2 (HA5.out _ _ hs.out.2.2) ?_; intro v6 w6 o6 g6; have t0 := HG.out _ _ _ hs.out.1 g6 _ _ y0; have t1 := HG.out _ _ _ hs.out.1 g6 _ _ y1; have t2 := HG.out _ _ _ hs.out.1 g6 _ _ y2))
      all_goals
        obtain ⟨vl', cl', ev6, _, _⟩ := (Rws.own o6).len
        have hl6 : (m.map frow ++ [[Value.int .i64 yi, .slice a2 dn cc, .int .i64 ys]]).length = k + 1 := by
          rw [List.length_append, List.length_map, HM.out.1]
          rfl
        rw [hl6] at ev6
        subst ev6
        have HF6 : Hid (OwnF w6 w.heap.size (.slice vl' (k + 1) cl') (m ++ [(.slice a2 dn cc, yi, yd, ys)])) := hs.out.1.snoc (y := (.slice a2 dn cc, yi, yd, ys)) (hs.out.2.1.mono hsz2.out) HY.out (fun z hz => apart_new (HO.out.2.1 z hz).1 hs.out.2.1) _ o6 g6
        have HM6 : Hid ((m ++ [((.slice a2 dn cc, yi, yd, ys) : FRow)]).length = k + 1 ∧ (m ++ [((.slice a2 dn cc, yi, yd, ys) : FRow)]).map (·.2) = l.take (k + 1)) := by
          refine ⟨by rw [List.length_append, HM.out.1]; rfl, ?_⟩
          rw [HT.out, List.map_append, HM.out.2]
          rfl
        have HU6 : Hid (Below w.heap.size w w6) := by
          have uu := up_al (up_trans up.out hs.out.2.2) (.cells #[.int .i64 yi, .slice a2 dn cc, .int .i64 ys] 71)
          exact uu.grown g6 uu.size (fun j hj => (hs.out.1.1.2.lt j hj).1)
        have HN6 : Hid (k + 1 ≤ l.length) := HK.out
        have hk62 : (k : Int) ≤ 140737488351232 := by
          have h1 := HL.out
          have h2 := HK.out
          omega
        clear o6 g6 hl6 t0 t1 t2
        go_wp2_with fail
        exact ⟨⟨k + 1, _, vl', cl', HN6.out, by go_num, rfl, HM6, HF6, HU6⟩, by have := HN6.out; simp [intOf]; omega⟩
    · have hlt' : ¬ (k : Int) < (l.length : Int) := by omega
      obtain rfl : k = l.length := by omega
      rw [List.take_length] at HM
      go_wp2_with fail
      go_ret
      exact ⟨_, rfl, m, HM.out.2, HO.out, up.out⟩
end Go.Proofs.Ytoceddpjkodfkaa
