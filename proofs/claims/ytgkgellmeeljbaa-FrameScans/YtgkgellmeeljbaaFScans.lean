/- The law FrameScans, walked: records put one behind the other are scanned, all of them; cut off anywhere, just those that lie whole ahead of the cut. -/
import Derived.Test.YtgkgellmeeljbaaFCut
import Derived.Test.YtgkgellmeeljbaaFSame
import Derived.Maps.AppendAt
namespace Go.Proofs.Ytgkgellmeeljbaa
open Go.RowKit SumPlain
set_option linter.unusedVariables false

theorem Try.info24s : (Try.prog.info? 24).map (fun i => (i.zero, i.size, i.bytes)) = some (some (.agg #[.int .i64 0, .slice none 0 0]), 2, 32) := by kernel_rfl
theorem Try.info3s : (Try.prog.info? 3).map (fun i => (i.zero, i.size, i.bytes)) = some (some (.int .i64 0), 1, 8) := by kernel_rfl

def pl (x : Got) : Int × List Int := (x.2.1, x.2.2.1)
def catG (gs : List Got) : List Int := catF (gs.map pl)
def endsG (gs : List Got) : List Value := (endsF (gs.map pl)).map fun (n : Nat) => Value.int .i64 (n : Int)

theorem catG_snoc (gs : List Got) (x : Got) : catG (gs ++ [x]) = catG gs ++ frameOf x.2.1 x.2.2.1 := by
  unfold catG
  rw [List.map_append, catF_append]
  simp [catF, pl]
theorem endsG_snoc (gs : List Got) (x : Got) : endsG (gs ++ [x]) = endsG gs ++ [.int .i64 ((catG (gs ++ [x])).length : Int)] := by
  unfold endsG endsF catG
  simp only [List.length_map, List.length_append, List.length_cons, List.length_nil, Nat.zero_add, List.range_succ, List.map_append, List.map_map, List.map_cons, List.map_nil]
  congr 1
  · apply List.map_congr_left
    intro i hi
    have hi' := List.mem_range.1 hi
    simp only [Function.comp]
    rw [List.take_append_of_le_length (by simp; omega)]
  · rw [List.take_of_length_le (by simp)]
theorem endsG_at (gs : List Got) (i : Nat) (hi : i < gs.length) : (endsG gs)[i]? = some (.int .i64 ((catF ((gs.map pl).take (i + 1))).length : Int)) := by
  unfold endsG endsF
  simp [hi]
theorem endsG_len (gs : List Got) : (endsG gs).length = gs.length := by simp [endsG, endsF]

theorem cell_low {w w' : World} {a : Addr} {v : Value} (h : w.cell? a = some v) (hb : Below w.heap.size w w') : w'.cell? a = some v := by
  rw [hb.cell (by
    rcases Nat.lt_or_ge a.block w.heap.size with q | q
    · exact q
    · simp [World.cell?, Array.getElem?_eq_none q] at h)]
  exact h

/-- What has been put so far. -/
def PutS (W : World) (base : Nat) (v5 v6 v7 : Value) (gs : List Got) : Prop :=
  OwnB W base v5 (catG gs) ∧ W.ownsRow base 3 1 v6 gs.length (endsG gs) ∧ OwnR W base 24 2 v7 (gs.map grow) ∧ ∀ x ∈ gs, OkRec (pl x)

theorem PutS.up {W W' : World} {base : Nat} {v5 v6 v7 : Value} {gs : List Got} (h : PutS W base v5 v6 v7 gs) (hb : Below W.heap.size W W') : PutS W' base v5 v6 v7 gs :=
  ⟨own_up h.1 hb, own_up h.2.1 hb, h.2.2.1.up hb, h.2.2.2⟩
theorem PutS.ok {W : World} {base : Nat} {v5 v6 v7 : Value} {gs : List Got} (h : PutS W base v5 v6 v7 gs) : ∀ g ∈ gs.map pl, OkRec g := by
  intro g hg
  obtain ⟨x, hx, rfl⟩ := List.mem_map.1 hg
  exact h.2.2.2 x hx
theorem PutS.len {W : World} {base : Nat} {v5 v6 v7 : Value} {gs : List Got} (h : PutS W base v5 v6 v7 gs) : (catG gs).length ≤ 70000 * gs.length := by
  have := catF_len (gs.map pl) h.ok
  rw [List.length_map] at this
  exact this

theorem place2 (a : Int) (N : Nat) (hN : N ≤ 1400000) : ∃ p : Nat, (wrap64 (wrap64 (a.tmod ((N : Int) + 1) + (N : Int)) + 1)).tmod ((N : Int) + 1) = (p : Int) ∧ p ≤ N := by
  have h1 := Int.tmod_lt_of_pos a (show (0 : Int) < (N : Int) + 1 by omega)
  have h2 : -((N : Int) + 1) < a.tmod ((N : Int) + 1) := Int.lt_tmod_of_pos a (show (0 : Int) < (N : Int) + 1 by omega)
  generalize a.tmod ((N : Int) + 1) = q at *
  have e1 : wrap64 (q + (N : Int)) = q + (N : Int) := by unfold wrap64; omega
  rw [e1]
  have e2 : wrap64 (q + (N : Int) + 1) = q + (N : Int) + 1 := by unfold wrap64; omega
  rw [e2]
  have h3 := Int.tmod_lt_of_pos (q + (N : Int) + 1) (show (0 : Int) < (N : Int) + 1 by omega)
  have h4 : 0 ≤ (q + (N : Int) + 1).tmod ((N : Int) + 1) := Int.tmod_nonneg _ (by omega)
  exact ⟨((q + (N : Int) + 1).tmod ((N : Int) + 1)).toNat, by omega, by omega⟩

theorem scan_pl (xs gs : List Got) (h : xs.map (·.2) = (gs.map pl).map trip) : xs.map (fun x => (x.2.1, x.2.2.1)) = gs.map (fun x => (x.2.1, x.2.2.1)) := by
  have := congrArg (List.map (fun z : Int × List Int × Nat => (z.1, z.2.1))) h
  rw [List.map_map, List.map_map, List.map_map] at this
  exact this

set_option maxHeartbeats 4000000 in
set_option maxRecDepth 4000 in
theorem scans_walk (va : Value) (L : List Got) (at_ : Int) (w : World) (hL : RecsR w va L) (hd : ∀ x ∈ L, x.2.2.1.length ≤ 140737488351232) :
    Calls Try.prog 4 #[va, .int .i64 at_] w fun e w' => e = .returned (.bool true) ∧ Below w.heap.size w w' := by
  obtain ⟨al, cl, rfl, _, hml⟩ := hL.len
  have HA : Hid (RecsR w (.slice al L.length cl) L ∧ ∀ x ∈ L, x.2.2.1.length ≤ 140737488351232) := ⟨hL, hd⟩
  have hl63 : L.length ≤ 9223372036854775807 := by unfold maxLen at hml; omega
  clear hL hd hml
  go_enter Try.func4, Try.ntmps4
  go_wp2_with fail
  refine (alive_any _).mono ?_
  rintro e w1 ⟨rfl, b1⟩
  have U1 : Hid (Below w.heap.size w w1) := b1
  clear b1
  go_wp2_with fail
  go_loopw [5, 6, 7, 8] (fun p5 p6 p7 p8 wr => ∃ (gs : List Got) (k : Nat) (a5 a6 a7 : Option Addr) (c5 c6 c7 : Nat), k ≤ L.length ∧ k ≤ 20 ∧ p5 = .slice a5 (catG gs).length c5 ∧ p6 = .slice a6 gs.length c6 ∧ p7 = .slice a7 gs.length c7 ∧ p8 = .int .i64 (k : Int) ∧
    Hid (gs.length ≤ k ∧ (∀ x ∈ gs, x ∈ L)) ∧ Hid (gs = [] → a5 = none ∧ c5 = 0 ∧ a7 = none ∧ c7 = 0) ∧ Hid (PutS wr w1.heap.size (.slice a5 (catG gs).length c5) (.slice a6 gs.length c6) (.slice a7 gs.length c7) gs) ∧ Hid (Below w1.heap.size w1 wr)) (fun _ _ _ p8 _ => L.length - (intOf p8).toNat)
  case atStart => exact ⟨[], 0, none, none, none, 0, 0, 0, Nat.zero_le _, by omega, rfl, rfl, rfl, rfl, ⟨Nat.zero_le _, fun x hx => (by cases hx)⟩, fun _ => ⟨rfl, rfl, rfl, rfl⟩, ⟨OwnB.nil _ _, (by have := World.ownsRow_nil w1 w1.heap.size 3 1; exact this), OwnR.nil _ _ _ _, fun x hx => (by cases hx)⟩, Below.refl _ _⟩
  case round =>
    obtain ⟨gs, k, a5, a6, a7, c5, c6, c7, hk, hk20, rfl, rfl, rfl, rfl, HGL, HSH, HS, HB⟩ := hrel
    by_cases hgo : k < L.length ∧ k < 20
    · obtain ⟨hlt, h20⟩ := hgo
      have hlt' : (k : Int) < (L.length : Int) := by omega
      have h20' : (k : Int) < 20 := by omega
      have UW : Hid (Below w.heap.size w wr) := up_trans U1.out HB.out
      obtain ⟨b, off, cap, x, ax, cx, e, hx, hx1, y0, y1, oy⟩ := HA.out.1.at k hlt
      have z0 := cell_low y0 UW.out
      have z1 := cell_low y1 UW.out
      have ox := oy.up UW.out
      simp at e
      obtain ⟨rfl, rfl⟩ := e
      have hxl := HA.out.2 x (List.mem_of_getElem? hx)
      obtain ⟨xv, xk, xd, xn⟩ := x
      simp only at z0 z1 ox hxl hx1 y0 y1 oy
      subst hx1
      have Y0 : Hid (∀ w' : World, Below w.heap.size w w' → w'.cell? ⟨b, off + k * 2, none⟩ = some (.int .i64 xk) ∧ w'.cell? ⟨b, off + k * 2 + 1, none⟩ = some (.slice ax xd.length cx)) := fun w' h => ⟨cell_low y0 h, cell_low y1 h⟩
      clear y0 y1 oy
      have OX : Hid (Octs wr (.slice ax xd.length cx) xd) := ox
      have HXL : Hid (((.slice ax xd.length cx, xk, xd, xn) : Got) ∈ L) := List.mem_of_getElem? hx
      clear hx ox
      go_wp2_with fail
      refine (of_any xk xd ax cx _ OX.out (by omega)).mono ?_
      rintro e w2 ⟨a1, n1, c1, rfl, hn, ho, b2⟩
      have hn' := hn.out
      subst hn'
      have B2 : Hid (Below wr.heap.size wr w2) := b2
      have O2 : Hid (OwnB w2 wr.heap.size (.slice a1 xd.length c1) xd) := ho
      clear b2 ho hn
      go_wp2_with fail
      by_cases hgood : 0 ≤ xk ∧ xk ≤ 255 ∧ xd.length ≤ 65536
      · obtain ⟨k0, k1, hl6⟩ := hgood
        refine (fput_good xk a1 c1 xd _ (Octs.own O2.out OX.out.1) k0 k1 hl6).mono ?_
        rintro e w4 ⟨v4, rfl, o4, b4⟩
        obtain ⟨a4, n4, c4, rfl, _⟩ := own_shape o4
        have O4 : Hid (Octs w4 (.slice a4 n4 c4) (frameOf xk xd)) := Octs.own o4 (frame_octet xk xd ⟨k0, k1⟩ hl6 OX.out.1)
        have B4 : Hid (Below wr.heap.size wr w4) := up_trans B2.out b4
        have S4 : Hid (PutS w4 w1.heap.size (.slice a5 (catG gs).length c5) (.slice a6 gs.length c6) (.slice a7 gs.length c7) gs) := HS.out.up B4.out
        have HLen : Hid ((catG gs).length ≤ 1400000 ∧ (frameOf xk xd).length ≤ 70000 ∧ gs.length ≤ 20) := by
          have h1 := HS.out.len
          have h2 := HGL.out.1
          have h3 := frame_len xk xd
          have h4 := octets_len (xd.length : Int) (by omega) (by omega)
          exact ⟨by omega, by omega, by omega⟩
        have SZ : Hid (w1.heap.size ≤ w4.heap.size) := Nat.le_trans HB.out.size B4.out.size
        clear o4 b4 z0 z1
        go_wp2_with fail
        refine (num_any _ _).mono ?_
        rintro e w5 ⟨rfl, rfl⟩
        go_wp2_with (at_builtin; refine wpList_append_octs _ rfl _ _ rfl w1.heap.size _ _ rfl S4.out.1 _ (frameOf xk xd) rfl O4.out ?d1 SZ.out ?_)
        case d1 => have := HLen.out; omega
        intro v6 w6 o6 g6
        obtain ⟨gs', hgs'⟩ : ∃ gs' : List Got, gs' = gs ++ [(.slice ax xd.length cx, xk, xd, xn)] := ⟨_, rfl⟩
        have hcat : catG gs ++ frameOf xk xd = catG gs' := by rw [hgs', catG_snoc]
        rw [hcat] at o6
        obtain ⟨a5', n5', c5', rfl, N5⟩ := own_shape o6
        have hn5 := N5.out
        subst hn5
        have O6 : Hid (OwnB w6 w1.heap.size (.slice a5' (catG gs').length c5') (catG gs')) := o6
        have E6 : Hid (w6.ownsRow w1.heap.size 3 1 (.slice a6 gs.length c6) gs.length (endsG gs)) := S4.out.2.1.kept g6 (own_own_ne S4.out.2.1 S4.out.1 (by decide))
        have R6 : Hid (OwnR w6 w1.heap.size 24 2 (.slice a7 gs.length c7) (gs.map grow)) := S4.out.2.2.1.far g6 (own_own_ne S4.out.2.2.1.2 S4.out.1 (by decide))
        have B6 : Hid (Below w1.heap.size w1 w6) := (HB.out.trans (B4.out.mono HB.out.size)).grown g6 SZ.out (fun q hq => (S4.out.1.lt q hq).1)
        obtain ⟨i3, hi, hz0, hz1, hz2⟩ := info_some Try.info3s
        have E6' : Hid (∀ o, (w6.alloc o).ownsRow w1.heap.size 3 1 (.slice a6 gs.length c6) gs.length (endsG gs)) := fun o => E6.out.alloc o
        have HL6 : Hid (gs.length ≤ 20) := HLen.out.2.2
        have H6 : Hid ((catG gs').length ≤ 1500000) := by
          have := HLen.out
          have h1 : (catG gs').length = (catG gs).length + (frameOf xk xd).length := by rw [← hcat, List.length_append]
          unfold Hid
          omega
        have HC : Hid (gs' = gs ++ [(.slice ax xd.length cx, xk, xd, xn)] ∧ OkRec (xk, xd)) := ⟨hgs', ⟨k0, k1⟩, hl6, OX.out.1⟩
        clear o6 g6 N5 hcat hgs' S4 O4 B2 O2
        go_wp2_with (at_builtin; refine wpList_append_own_at _ rfl _ _ 49 rfl w1.heap.size 3 i3 (.int .i64 0) 1 8 Try.underlying49 hi hz0 hz1 hz2 rfl (by decide) _ gs.length _ rfl (E6'.out _) ⟨w6.heap.size, 0, none⟩ 1 1 [.int .i64 ((catG gs').length : Int)] rfl rfl ?e1 ?e2 ?e3 ?e4 ?e5 ?_)
        case e1 =>
          intro j u hj
          exact cells_new w6 [.int .i64 ((catG gs').length : Int)] [] 3 j u hj
        case e2 =>
          intro u hu
          simp at hu
          subst hu
          rfl
        case e3 => have := HL6.out; unfold maxLen; omega
        case e4 => have := HL6.out; omega
        case e5 => have := B6.out.size; simp; omega
        intro v8 w8 o8 g8 _ _
        have g8' : w6.grownBy w8 (Value.slice a6 gs.length c6).ownBlock := grown_trans (grown_up (up_alloc _ _) _) g8
        have O8 : Hid (OwnB w8 w1.heap.size (.slice a5' (catG gs').length c5') (catG gs')) := O6.out.kept g8' (own_own_ne O6.out E6.out (by decide))
        have R8 : Hid (OwnR w8 w1.heap.size 24 2 (.slice a7 gs.length c7) (gs.map grow)) := R6.out.far g8' (own_own_ne R6.out.2 E6.out (by decide))
        have B8 : Hid (Below w1.heap.size w1 w8) := B6.out.grown g8' B6.out.size (fun q hq => (E6.out.lt q hq).1)
        obtain ⟨ge, ce, rfl⟩ := ownsRow_succ o8
        have E8 : Hid (w8.ownsRow w1.heap.size 3 1 (.slice (some ⟨ge, 0, none⟩) (gs.length + 1) ce) (gs.length + 1) (endsG gs')) := by
          have h := o8
          unfold Hid
          rw [HC.out.1, endsG_snoc, ← HC.out.1]
          exact h
        have UW8 : Hid (Below w.heap.size w w8) := up_trans U1.out B8.out
        obtain ⟨z0, z1⟩ := Y0.out w8 UW8.out
        clear o8 g8 g8' O6 R6 B6 E6 E6' hi hz0 hz1 hz2
        obtain ⟨i4, hi, hz0, hz1, hz2⟩ := info_some Try.info24s
        have R8' : Hid (∀ o, (w8.alloc o).ownsRow w1.heap.size 24 2 (.slice a7 gs.length c7) gs.length (gs.map grow).flatten) := fun o => by
          have h := World.ownsRow.alloc R8.out.2 o
          rw [List.length_map] at h
          exact h
        go_wp2_with (at_builtin; refine wpList_append_own_at _ rfl _ _ 40 rfl w1.heap.size 24 i4 (.agg #[.int .i64 0, .slice none 0 0]) 2 32 Try.underlying40 hi hz0 hz1 hz2 rfl (by decide) _ gs.length _ rfl (R8'.out _) ⟨w8.heap.size, 0, none⟩ 1 1 [.int .i64 xk, .slice ax xd.length cx] rfl rfl ?f1 ?f2 ?f3 ?f4 ?f5 ?_)
        case f1 =>
          intro j u hj
          exact cells_new w8 [.int .i64 xk, .slice ax xd.length cx] [] 24 j u hj
        case f2 =>
          intro u hu
          simp at hu
          rcases hu with rfl | rfl <;> rfl
        case f3 => have := HL6.out; unfold maxLen; omega
        case f4 => have := HL6.out; omega
        case f5 => have := B8.out.size; simp; omega
        intro v9 w9 o9 g9 _ _
        have g9' : w8.grownBy w9 (Value.slice a7 gs.length c7).ownBlock := grown_trans (grown_up (up_alloc _ _) _) g9
        have O9 : OwnB w9 w1.heap.size (.slice a5' (catG gs').length c5') (catG gs') := O8.out.kept g9' (own_own_ne O8.out R8.out.2 (by decide))
        have E9 := E8.out.kept g9' (own_own_ne E8.out R8.out.2 (by decide))
        have B9 : Hid (Below w1.heap.size w1 w9) := B8.out.grown g9' B8.out.size (fun q hq => (R8.out.2.lt q hq).1)
        obtain ⟨gr, cr, rfl⟩ := ownsRow_succ o9
        have hlen' : gs'.length = gs.length + 1 := by rw [HC.out.1]; simp
        have S9 : Hid (PutS w9 w1.heap.size (.slice a5' (catG gs').length c5') (.slice (some ⟨ge, 0, none⟩) gs'.length ce) (.slice (some ⟨gr, 0, none⟩) gs'.length cr) gs') := by
          rw [← hlen'] at E9 o9
          refine ⟨O9, E9, ⟨?_, ?_⟩, ?_⟩
          · intro cs hcs
            obtain ⟨y, _, rfl⟩ := List.mem_map.1 hcs
            rfl
          · rw [List.length_map]
            have : (gs'.map grow).flatten = (gs.map grow).flatten ++ [.int .i64 xk, .slice ax xd.length cx] := by rw [HC.out.1]; simp [grow]
            rw [this]
            exact o9
          · intro y hy
            rw [HC.out.1] at hy
            rcases List.mem_append.1 hy with q | q
            · exact HS.out.2.2.2 y q
            · simp at q
              subst q
              exact HC.out.2
        have HG9 : Hid (gs'.length ≤ k + 1 ∧ (∀ x ∈ gs', x ∈ L)) := by
          refine ⟨by have := HGL.out.1; omega, ?_⟩
          intro y hy
          rw [HC.out.1] at hy
          rcases List.mem_append.1 hy with q | q
          · exact HGL.out.2 y q
          · simp at q
            subst q
            exact HXL.out
        have HLN : Hid (gs'.length = gs.length + 1) := hlen'
        clear o9 g9 g9' O9 E9 O8 R8 B8 E8 R8' hi hz0 hz1 hz2 hlen' z0 z1
        go_wp2_with fail
        refine ⟨⟨gs', k + 1, a5', some ⟨ge, 0, none⟩, some ⟨gr, 0, none⟩, c5', ce, cr, by omega, by omega, rfl, by rw [HLN.out], by rw [HLN.out], by go_num, HG9, (fun q => absurd (congrArg List.length q) (by rw [HLN.out]; simp)), S9, B9⟩, by simp [intOf]; omega⟩
      · obtain ⟨x, hx, hc⟩ := fput_bad xk a1 xd.length c1 hgood
        refine (hc _).mono ?_
        rintro e w4 ⟨rfl, b4⟩
        have B4 : Hid (Below wr.heap.size wr w4) := up_trans B2.out b4
        have S4 : Hid (PutS w4 w1.heap.size (.slice a5 (catG gs).length c5) (.slice a6 gs.length c6) (.slice a7 gs.length c7) gs) := HS.out.up B4.out
        have B4' : Hid (Below w1.heap.size w1 w4) := HB.out.trans (B4.out.mono HB.out.size)
        have HG4 : Hid (gs.length ≤ k + 1 ∧ (∀ x ∈ gs, x ∈ L)) := ⟨by have := HGL.out.1; omega, HGL.out.2⟩
        have hx' : (x == 0) = false := by rcases hx with rfl | rfl <;> rfl
        obtain ⟨q0, q1⟩ := Y0.out w4 (up_trans UW.out B4.out)
        clear b4 z0 z1 hc
        go_wp2_with fail
        refine (num_any _ _).mono ?_
        rintro e w5 ⟨rfl, rfl⟩
        by_cases c1' : xk < 0
        · have c1'' : ¬ 0 ≤ xk := by omega
          go_wp2_with fail
          refine ⟨⟨gs, k + 1, a5, a6, a7, c5, c6, c7, by omega, by omega, rfl, rfl, rfl, by go_num, HG4, HSH, S4, B4'⟩, by simp [intOf]; omega⟩
        · have c1'' : 0 ≤ xk := by omega
          by_cases c2' : 255 < xk
          · have c2'' : ¬ xk ≤ 255 := by omega
            go_wp2_with fail
            refine ⟨⟨gs, k + 1, a5, a6, a7, c5, c6, c7, by omega, by omega, rfl, rfl, rfl, by go_num, HG4, HSH, S4, B4'⟩, by simp [intOf]; omega⟩
          · have c2'' : xk ≤ 255 := by omega
            have c3 : ¬ (xd.length : Int) ≤ 65536 := by omega
            go_wp2_with fail
            refine ⟨⟨gs, k + 1, a5, a6, a7, c5, c6, c7, by omega, by omega, rfl, rfl, rfl, by go_num, HG4, HSH, S4, B4'⟩, by simp [intOf]; omega⟩
    · have HEND : Hid True := trivial
      have OC : Hid (Octs wr (.slice a5 (catG gs).length c5) (catG gs)) := Octs.own HS.out.1 (catF_octet _ HS.out.ok)
      have HLen : Hid ((catG gs).length ≤ 1400000 ∧ gs.length ≤ 20) := by
        have h1 := HS.out.len
        have h2 := HGL.out.1
        exact ⟨by omega, by omega⟩
      have hex : ((k : Int) < (L.length : Int)) = False ∨ (((k : Int) < (L.length : Int)) = True ∧ ((k : Int) < 20) = False) := by
        by_cases q : k < L.length
        · exact .inr ⟨by simp; omega, by simp; omega⟩
        · exact .inl (by simp; omega)
      obtain ⟨p, hp, hpN⟩ := place2 at_ (catG gs).length HLen.out.1
      obtain ⟨N, hN⟩ : ∃ N, N = (catG gs).length := ⟨_, rfl⟩
      rw [← hN] at hp hpN OC ⊢
      have HN : Hid (N = (catG gs).length) := hN
      have HS' : Hid (PutS wr w1.heap.size (.slice a5 N c5) (.slice a6 gs.length c6) (.slice a7 gs.length c7) gs) := by rw [← hN] at HS; exact HS
      have hN14 : N ≤ 1400000 := by have := HLen.out.1; omega
      have hp' : (p : Int) ≤ (N : Int) := by omega
      have hgl : gs.length ≤ 20 := HLen.out.2
      have HSc : Hid (∀ wx, Below wr.heap.size wr wx → Calls Try.prog 14 #[.slice a5 N c5] wx fun e w' => ∃ a' n' c', e = .returned (.tuple #[.slice a' n' c', .int .i64 (N : Int)]) ∧ Hid (∃ xs : List Got, xs.map (fun x => (x.2.1, x.2.2.1)) = gs.map (fun x => (x.2.1, x.2.2.1)) ∧ RecsR w' (.slice a' n' c') xs) ∧ Hid (Below wx.heap.size wx w')) := by
        intro wx hb
        refine (scan_any (catG gs) _ wx (OC.out.up hb) (by omega)).mono ?_
        rintro e w' ⟨a', n', c', xs, rfl, _, h1, h2, h3, hb'⟩
        have hsc := scanOf_all (gs.map pl) HS'.out.ok
        have hsc' : scanOf (catG gs) = (gs.map pl).map trip := hsc
        have hle : lenOf (scanOf (catG gs)) = N := by rw [hsc', lenOf_trip, HN.out]; rfl
        rw [hle]
        exact ⟨a', n', c', rfl, ⟨xs, scan_pl xs gs (h1.trans hsc'), RecsR.own h2 h3⟩, hb'⟩
      have HGo : Hid (∀ wx, Below wr.heap.size wr wx → RecsR wx (.slice a7 gs.length c7) gs) := fun wx hb => by
        refine ⟨(Rws.own HS'.out.2.2.1).up hb, fun x hx => (HA.out.1.2 x (HGL.out.2 x hx)).up (up_trans (up_trans U1.out HB.out) hb)⟩
      have HSAll : Hid (∀ (w2 : World) (ag : Option Addr) (ng cg : Nat), Hid (∃ xs : List Got, xs.map (fun x => (x.2.1, x.2.2.1)) = gs.map (fun x => (x.2.1, x.2.2.1)) ∧ RecsR w2 (.slice ag ng cg) xs) → Below wr.heap.size wr w2 → Calls Try.prog 19 #[.slice ag ng cg, .slice a7 gs.length c7] w2 fun e w' => e = .returned (.bool true) ∧ Below w2.heap.size w2 w') := by
        intro w2 ag ng cg X b2
        obtain ⟨xs, h1, h2⟩ := X.out
        exact sameAll_self xs gs _ _ _ h2 (HGo.out _ b2) h1
      have hcs : Hid (gs.length ≤ c7 ∧ N ≤ c5) := by
        obtain ⟨_, _, e1, q1, _⟩ := (HGo.out wr (Below.refl _ _)).len
        obtain ⟨_, _, e2, q2⟩ := own_len HS'.out.1
        simp at e1 e2
        rw [HN.out]
        exact ⟨by omega, by omega⟩
      have hc7 : gs.length ≤ c7 := hcs.out.1
      have hc5 : N ≤ c5 := hcs.out.2
      obtain ⟨K, hK⟩ : ∃ K, K = cntF (gs.map pl) p := ⟨_, rfl⟩
      obtain ⟨E, hE⟩ : ∃ E, E = (catF ((gs.map pl).take K)).length := ⟨_, rfl⟩
      have hKg : K ≤ gs.length := by
        have := cntF_le (gs.map pl) p
        rw [List.length_map] at this
        omega
      have HLast : Hid (lastF (gs.map pl) p gs.length = (K, E)) := by
        have h := lastF_cnt (gs.map pl) p gs.length (by simp)
        unfold Hid
        rw [h, ← hK, Nat.min_eq_right hKg, hE]
      have HSc2 : Hid (∀ wx, Below wr.heap.size wr wx → Calls Try.prog 14 #[.slice a5 p c5] wx fun e w' => ∃ a' n' c', e = .returned (.tuple #[.slice a' n' c', .int .i64 (E : Int)]) ∧ Hid (∃ xs : List Got, xs.map (fun x => (x.2.1, x.2.2.1)) = (gs.take K).map (fun x => (x.2.1, x.2.2.1)) ∧ RecsR w' (.slice a' n' c') xs) ∧ Hid (Below wx.heap.size wx w')) := by
        intro wx hb
        have hoc := OC.out.up hb
        have hcut : Octs wx (.slice a5 p c5) ((catG gs).take p) := by
          cases ha : a5 with
          | none =>
            rw [ha] at hoc
            rcases hoc.2 with ⟨e, _⟩ | ⟨_, b', off', cap', e, _⟩
            · have : N = 0 := by rw [HN.out, e]; rfl
              have hp0 : p = 0 := by omega
              rw [hp0, e]
              rw [e, this] at hoc
              exact hoc
            · simp at e
          | some ad =>
            rw [ha] at hoc
            obtain ⟨bb, oo, sp⟩ := ad
            by_cases hne : catG gs = []
            · have : N = 0 := by rw [HN.out, hne]; rfl
              have hp0 : p = 0 := by omega
              rw [hp0, hne]
              rw [hne, this] at hoc
              exact hoc
            · have hsp : sp = none := by
                rcases hoc.2 with ⟨e, _⟩ | ⟨_, b', off', cap', e, _⟩
                · exact absurd e hne
                · simp at e; exact e.1.2.2
              subst hsp
              exact hoc.cut HN.out p (by rw [← HN.out]; exact hpN)
        refine (scan_any _ _ wx hcut (by rw [List.length_take]; omega)).mono ?_
        rintro e w' ⟨a', n', c', xs, rfl, _, h1, h2, h3, hb'⟩
        have hsc : scanOf ((catG gs).take p) = ((gs.map pl).take K).map trip := by
          have := scanOf_cut (gs.map pl) HS'.out.ok p (by have := HN.out; unfold catG at this; omega)
          rw [← hK] at this
          exact this
        have hle : lenOf (scanOf ((catG gs).take p)) = E := by rw [hsc, lenOf_trip, hE]
        rw [hle]
        refine ⟨a', n', c', rfl, ⟨xs, ?_, RecsR.own h2 h3⟩, hb'⟩
        refine scan_pl xs (gs.take K) (h1.trans ?_)
        rw [hsc, ← List.map_take]
      have HSAll2 : Hid (∀ (w2 : World) (ag : Option Addr) (ng cg : Nat), Hid (∃ xs : List Got, xs.map (fun x => (x.2.1, x.2.2.1)) = (gs.take K).map (fun x => (x.2.1, x.2.2.1)) ∧ RecsR w2 (.slice ag ng cg) xs) → Below wr.heap.size wr w2 → Calls Try.prog 19 #[.slice ag ng cg, .slice a7 K c7] w2 fun e w' => e = .returned (.bool true) ∧ Below w2.heap.size w2 w') := by
        intro w2 ag ng cg X b2
        obtain ⟨xs, h1, h2⟩ := X.out
        have hg := HGo.out _ b2
        refine sameAll_self xs (gs.take K) _ _ _ h2 ⟨?_, fun x hx => hg.2 x (List.mem_of_mem_take hx)⟩ h1
        have := hg.1.first K (by rw [List.length_map]; exact hKg)
        rw [← List.map_take] at this
        exact this
      have HEnd : Hid (∀ wx, Below wr.heap.size wr wx → ∀ i, i < gs.length → ∃ g6, a6 = some ⟨g6, 0, none⟩ ∧ gs.length ≤ c6 ∧ wx.cell? ⟨g6, i, none⟩ = some (.int .i64 ((catF ((gs.map pl).take (i + 1))).length : Int))) := by
        intro wx hb i hi
        have ho := own_up HS'.out.2.1 hb
        have ho' := ho
        rcases ho'.2 with ⟨_, h0⟩ | ⟨g6, cc, cur, e, _, _, hcc, _⟩
        · omega
        · simp at e
          obtain ⟨rfl, rfl⟩ := e
          have hc0 := ho.cellAt i (by rw [Nat.mul_one]; exact hi)
          rw [endsG_at gs i hi] at hc0
          exact ⟨g6, rfl, hcc, hc0⟩
      have HKE : Hid (K = cntF (gs.map pl) p ∧ E = (catF ((gs.map pl).take K)).length) := ⟨hK, hE⟩
      have hE14 : E ≤ 1400000 := by
        have h1 := catF_len ((gs.map pl).take K) (fun g hg => HS'.out.ok g (List.mem_of_mem_take hg))
        rw [List.length_take, List.length_map] at h1
        omega
      clear HS hN HLen hK hE
      have hsh : (a5 = none ∧ c5 = 0 ∧ a7 = none ∧ c7 = 0 ∧ N = 0 ∧ p = 0 ∧ K = 0) ∨ ∃ g5 g7, a5 = some ⟨g5, 0, none⟩ ∧ a7 = some ⟨g7, 0, none⟩ := by
        by_cases q : gs = []
        · obtain ⟨q1, q2, q3, q4⟩ := HSH.out q
          exact .inl ⟨q1, q2, q3, q4, by omega, by omega, by omega⟩
        · right
          have hne : catG gs ≠ [] := by
            intro e
            have := HS'.out
            cases gs with
            | nil => exact q rfl
            | cons x r =>
              have h2 : (catG (x :: r)).length = 0 := by rw [e]; rfl
              unfold catG at h2
              simp only [List.map_cons, catF, List.length_append] at h2
              have := frame_len (pl x).1 (pl x).2
              omega
          obtain ⟨g5, _, e5, _⟩ := own_form HS'.out.1 hne
          simp at e5
          have e7 := HS'.out.2.2.1.2
          rcases e7.2 with ⟨h1, h2⟩ | ⟨g7, _, _, h1, _⟩
          · rw [List.length_map] at h2
            exact absurd (List.length_eq_zero_iff.1 h2) q
          · simp at h1
            exact ⟨g5, g7, e5.1, h1.1⟩
      rcases hsh with ⟨rfl, rfl, rfl, rfl, rfl, rfl, rfl⟩ | ⟨g5, g7, rfl, rfl⟩
      · have hg0 : gs = [] := by
          have hc := HN.out
          cases gs with
          | nil => rfl
          | cons x r =>
            unfold catG at hc
            simp only [List.map_cons, catF, List.length_append] at hc
            have := frame_len (pl x).1 (pl x).2
            omega
        have hE0 : E = 0 := by rw [HKE.out.2]; rfl
        subst hE0
        subst hg0
        rcases hex with hex | ⟨hex, hex2⟩
        all_goals
          go_wp2_with fail
          refine (HSc.out _ (Below.refl _ _)).mono ?_
          rintro e w2 ⟨ag, ng, cg, rfl, X2, b2⟩
          go_wp2_with fail
          refine (HSAll.out _ _ _ _ X2 b2.out).mono ?_
          rintro e w3 ⟨rfl, b3⟩
          have B3 : Hid (Below wr.heap.size wr w3) := up_trans b2.out b3
          clear b3
          go_wp2_with fail
          go_loopw [13, 14, 15] (fun p13 p14 p15 wx => p13 = .int .i64 0 ∧ p14 = .int .i64 0 ∧ p15 = .int .i64 0 ∧ Hid (Below w3.heap.size w3 wx)) (fun _ _ p15 _ => 0)
          case atStart => exact ⟨rfl, rfl, rfl, Below.refl _ _⟩
          case round =>
            obtain ⟨rfl, rfl, rfl, BX⟩ := hrel
            go_wp2_with fail
            refine (HSc2.out _ (up_trans B3.out BX.out)).mono ?_
            rintro e w5 ⟨ah, nh, ch, rfl, X5, b5⟩
            have B5 := up_trans (up_trans B3.out BX.out) b5.out
            go_wp2_with fail
            refine (HSAll2.out _ _ _ _ X5 B5).mono ?_
            rintro e w6 ⟨rfl, b6⟩
            have U6 : Hid (Below w.heap.size w w6) := up_trans (up_trans U1.out HB.out) (up_trans B5 b6)
            clear b6
            go_wp2
            go_ret
            exact ⟨rfl, U6.out⟩
      · rcases hex with hex | ⟨hex, hex2⟩
        all_goals
          go_wp2_with fail
          refine (HSc.out _ (Below.refl _ _)).mono ?_
          rintro e w2 ⟨ag, ng, cg, rfl, X2, b2⟩
          go_wp2_with fail
          refine (HSAll.out _ _ _ _ X2 b2.out).mono ?_
          rintro e w3 ⟨rfl, b3⟩
          have B3 : Hid (Below wr.heap.size wr w3) := up_trans b2.out b3
          clear b3
          go_wp2_with fail
          go_loopw [13, 14, 15] (fun p13 p14 p15 wx => ∃ i : Nat, i ≤ gs.length ∧ p13 = .int .i64 ((lastF (gs.map pl) p i).1 : Int) ∧ p14 = .int .i64 ((lastF (gs.map pl) p i).2 : Int) ∧ p15 = .int .i64 (i : Int) ∧ Hid (Below w3.heap.size w3 wx)) (fun _ _ p15 _ => gs.length - (intOf p15).toNat)
          case atStart => exact ⟨0, Nat.zero_le _, rfl, rfl, rfl, Below.refl _ _⟩
          case round =>
            obtain ⟨i, hi, rfl, rfl, rfl, BX⟩ := hrel
            by_cases hil : i < gs.length
            · have hil' : (i : Int) < (gs.length : Int) := by omega
              obtain ⟨g6, rfl, hc6, y6⟩ := HEnd.out _ (up_trans B3.out BX.out) i hil
              obtain ⟨Ei, hEi⟩ : ∃ Ei, Ei = (catF ((gs.map pl).take (i + 1))).length := ⟨_, rfl⟩
              rw [← hEi] at y6
              by_cases hle : Ei ≤ p
              · have hle' : (Ei : Int) ≤ (p : Int) := by omega
                have HL1 : Hid (lastF (gs.map pl) p (i + 1) = (i + 1, Ei)) := by
                  unfold Hid lastF
                  rw [← hEi, if_pos hle]
                clear hEi
                go_wp2_with fail
                go_region
                all_goals go_wp2_with fail
                all_goals exact ⟨⟨i + 1, by omega, by rw [HL1.out]; simp, by rw [HL1.out], by go_num, up_trans BX.out (up_dr (Below.refl _ _))⟩, by simp [intOf]; omega⟩
              · have hle' : ¬ (Ei : Int) ≤ (p : Int) := by omega
                have HL1 : Hid (lastF (gs.map pl) p (i + 1) = lastF (gs.map pl) p i) := by
                  unfold Hid
                  rw [lastF, ← hEi, if_neg hle]
                clear hEi
                go_wp2_with fail
                exact ⟨⟨i + 1, by omega, by rw [HL1.out], by rw [HL1.out], by go_num, BX⟩, by simp [intOf]; omega⟩
            · have hig : i = gs.length := by omega
              subst hig
              rw [HLast.out]
              have hil' : ¬ (gs.length : Int) < (gs.length : Int) := by omega
              have hKc : (K : Int) ≤ (c7 : Int) := by omega
              have hpc : (p : Int) ≤ (c5 : Int) := by omega
              go_wp2_with fail
              refine (HSc2.out _ (up_trans B3.out BX.out)).mono ?_
              rintro e w5 ⟨ah, nh, ch, rfl, X5, b5⟩
              have B5 := up_trans (up_trans B3.out BX.out) b5.out
              go_wp2_with fail
              refine (HSAll2.out _ _ _ _ X5 B5).mono ?_
              rintro e w6 ⟨rfl, b6⟩
              have U6 : Hid (Below w.heap.size w w6) := up_trans (up_trans U1.out HB.out) (up_trans B5 b6)
              clear b6
              go_wp2
              go_ret
              exact ⟨rfl, U6.out⟩
end Go.Proofs.Ytgkgellmeeljbaa
