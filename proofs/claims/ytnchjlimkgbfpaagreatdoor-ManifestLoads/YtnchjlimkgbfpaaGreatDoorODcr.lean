
import Derived.Test.YtnchjlimkgbfpaaGreatDoorE28
import Derived.Test.YtnchjlimkgbfpaaGreatDoorE18
import Derived.Test.YtnchjlimkgbfpaaGreatDoorE19
import Derived.Test.YtnchjlimkgbfpaaGreatDoorE17
import Derived.Test.YtnchjlimkgbfpaaGreatDoorDEdI
import Derived.Test.YtnchjlimkgbfpaaGreatDoorE02
import Derived.Deep.RegionHeld3
namespace Go.Proofs.YtnchjlimkgbfpaaGreatDoor
open Go.RowKit
set_option linter.unusedVariables false
set_option linter.unusedSimpArgs false
set_option maxRecDepth 20000
structure DS (w0 w : World) (E0 N E : Nat) (X : List Int) (a : Option Addr) (c k : Nat) (y : Int) (vd va : Value) (ds : List Int) (tl : List Me) (sq nx : Int) : Prop where
  rq : RQ w0 w N X a c k y
  res : w.heap[E0]? = some (.cells #[.slice none 0 0, .slice none 0 0, .int .i64 0, .int .i64 0] 31)
  box : w.heap[E]? = some (.cells #[vd, va, .int .i64 sq, .int .i64 nx] 31)
  own : OwnR w w0.heap.size 3 1 vd (ds.map irow)
  adds : OwnR w w0.heap.size 139 5 va (tl.map meRow)
  nN : E ≠ N ∧ E0 ≠ N ∧ E ≠ E0
  bE : w0.heap.size ≤ E ∧ w0.heap.size ≤ E0
theorem DS.up {w0 w : World} {E0 N E : Nat} {X : List Int} {a : Option Addr} {c k : Nat} {y : Int} {vd va : Value} {ds : List Int} {tl : List Me} {sq nx : Int} (h : DS w0 w E0 N E X a c k y vd va ds tl sq nx) {w' : World} (hb : Below w.heap.size w w') : DS w0 w' E0 N E X a c k y vd va ds tl sq nx :=
  ⟨h.rq.upw hb, blk_up h.res hb, blk_up h.box hb, h.own.up hb, h.adds.up hb, h.nN, h.bE⟩
theorem DS.num {w0 w : World} {E0 N E : Nat} {X : List Int} {a : Option Addr} {c k : Nat} {y : Int} {vd va : Value} {ds : List Int} {tl : List Me} {sq nx : Int} (h : DS w0 w E0 N E X a c k y vd va ds tl sq nx) {w' : World} {k' : Nat} {y' : Int} (R : RQ w0 w' N X a c k' y') (g : w.grownBy w' (some N)) : DS w0 w' E0 N E X a c k' y' vd va ds tl sq nx :=
  ⟨R, blk_grown h.res g (fun q => by injection q with q; exact h.nN.2.1 q), blk_grown h.box g (fun q => by injection q with q; exact h.nN.1 q), h.own.far g (own_blk_ne h.own.2 h.rq.blk (by decide)), h.adds.far g (own_blk_ne h.adds.2 h.rq.blk (by decide)), h.nN, h.bE⟩
theorem DS.far {w0 w : World} {E0 N E : Nat} {X : List Int} {a : Option Addr} {c k : Nat} {y : Int} {vd va : Value} {ds : List Int} {tl : List Me} {sq nx : Int} (h : DS w0 w E0 N E X a c k y vd va ds tl sq nx) {w' : World} {G : Nat} (g : w.grownBy w' (some G)) (hG : w0.heap.size ≤ G) (n1 : G ≠ N) (n2 : E ≠ G) (n3 : E0 ≠ G) (d1 : vd.ownBlock = none ∨ vd.ownBlock ≠ some G) (d2 : va.ownBlock = none ∨ va.ownBlock ≠ some G) : DS w0 w' E0 N E X a c k y vd va ds tl sq nx :=
  ⟨h.rq.far g (fun q e => by injection e with e; subst e; exact ⟨hG, n1⟩), blk_grown h.res g (fun q => by injection q with q; exact n3 q), blk_grown h.box g (fun q => by injection q with q; exact n2 q), h.own.far g d1, h.adds.far g d2, h.nN, h.bE⟩
theorem DS.set2 {w0 w : World} {E0 N E : Nat} {X : List Int} {a : Option Addr} {c k : Nat} {y : Int} {vd va : Value} {ds : List Int} {tl : List Me} {sq nx : Int} (h : DS w0 w E0 N E X a c k y vd va ds tl sq nx) (v : Int) : DS w0 (w.setCell ⟨E, 2, none⟩ (.int .i64 v)) E0 N E X a c k y vd va ds tl v nx :=
  have g := grown_set w ⟨E, 2, none⟩ (.int .i64 v)
  ⟨h.rq.far g (fun q e => by injection e with e; subst e; exact ⟨h.bE.1, h.nN.1⟩), blk_grown h.res g (fun q => by injection q with q; exact h.nN.2.2 q.symm), blk_set h.box 2 _, h.own.far g (own_blk_ne h.own.2 h.box (by decide)), h.adds.far g (own_blk_ne h.adds.2 h.box (by decide)), h.nN, h.bE⟩
theorem DS.set3 {w0 w : World} {E0 N E : Nat} {X : List Int} {a : Option Addr} {c k : Nat} {y : Int} {vd va : Value} {ds : List Int} {tl : List Me} {sq nx : Int} (h : DS w0 w E0 N E X a c k y vd va ds tl sq nx) (v : Int) : DS w0 (w.setCell ⟨E, 3, none⟩ (.int .i64 v)) E0 N E X a c k y vd va ds tl sq v :=
  have g := grown_set w ⟨E, 3, none⟩ (.int .i64 v)
  ⟨h.rq.far g (fun q e => by injection e with e; subst e; exact ⟨h.bE.1, h.nN.1⟩), blk_grown h.res g (fun q => by injection q with q; exact h.nN.2.2 q.symm), blk_set h.box 3 _, h.own.far g (own_blk_ne h.own.2 h.box (by decide)), h.adds.far g (own_blk_ne h.adds.2 h.box (by decide)), h.nN, h.bE⟩
theorem DS.drop {w0 w : World} {E0 N E : Nat} {X : List Int} {a : Option Addr} {c k : Nat} {y : Int} {vd va : Value} {ds : List Int} {tl : List Me} {sq nx : Int} (h : DS w0 w E0 N E X a c k y vd va ds tl sq nx) {w' : World} {v' : Value} {ds' : List Int} (o : OwnR w' w0.heap.size 3 1 v' (ds'.map irow)) (g : w.grownBy w' vd.ownBlock) : DS w0 (w'.setCell ⟨E, 0, none⟩ v') E0 N E X a c k y v' va ds' tl sq nx ∧ w'.heap[E]? = some (.cells #[vd, va, .int .i64 sq, .int .i64 nx] 31) := by
  have nb : ∀ (B : Nat) (cs : Array Value) (t : TypeId), w.heap[B]? = some (.cells cs t) → (3 : TypeId) ≠ t → some B ≠ vd.ownBlock := fun B cs t hb ht q => by
    rcases own_blk_ne h.own.2 hb ht with e | e
    · rw [e] at q; cases q
    · exact e q.symm
  have hbox := blk_grown h.box g (nb _ _ _ h.box (by decide))
  have hres := blk_grown h.res g (nb _ _ _ h.res (by decide))
  have hadd := h.adds.far g (own_own_ne h.adds.2 h.own.2 (by decide))
  have hrq := h.rq.far g (fun q e => ⟨(h.own.2.lt q e).1, fun e2 => nb N _ _ h.rq.blk (by decide) (by rw [e, e2])⟩)
  have g2 := grown_set w' ⟨E, 0, none⟩ v'
  exact ⟨⟨hrq.far g2 (fun q e => by injection e with e; subst e; exact ⟨h.bE.1, h.nN.1⟩), blk_grown hres g2 (fun q => by injection q with q; exact h.nN.2.2 q.symm), blk_set hbox 0 _, o.far g2 (own_blk_ne o.2 hbox (by decide)), hadd.far g2 (own_blk_ne hadd.2 hbox (by decide)), h.nN, h.bE⟩, hbox⟩
theorem DS.add {w0 w : World} {E0 N E : Nat} {X : List Int} {a : Option Addr} {c k : Nat} {y : Int} {vd va : Value} {ds : List Int} {tl : List Me} {sq nx : Int} (h : DS w0 w E0 N E X a c k y vd va ds tl sq nx) {w' : World} {v' : Value} {tl' : List Me} (o : OwnR w' w0.heap.size 139 5 v' (tl'.map meRow)) (g : w.grownBy w' va.ownBlock) : DS w0 (w'.setCell ⟨E, 1, none⟩ v') E0 N E X a c k y vd v' ds tl' sq nx ∧ w'.heap[E]? = some (.cells #[vd, va, .int .i64 sq, .int .i64 nx] 31) := by
  have nb : ∀ (B : Nat) (cs : Array Value) (t : TypeId), w.heap[B]? = some (.cells cs t) → (139 : TypeId) ≠ t → some B ≠ va.ownBlock := fun B cs t hb ht q => by
    rcases own_blk_ne h.adds.2 hb ht with e | e
    · rw [e] at q; cases q
    · exact e q.symm
  have hbox := blk_grown h.box g (nb _ _ _ h.box (by decide))
  have hres := blk_grown h.res g (nb _ _ _ h.res (by decide))
  have hown := h.own.far g (own_own_ne h.own.2 h.adds.2 (by decide))
  have hrq := h.rq.far g (fun q e => ⟨(h.adds.2.lt q e).1, fun e2 => nb N _ _ h.rq.blk (by decide) (by rw [e, e2])⟩)
  have g2 := grown_set w' ⟨E, 1, none⟩ v'
  exact ⟨⟨hrq.far g2 (fun q e => by injection e with e; subst e; exact ⟨h.bE.1, h.nN.1⟩), blk_grown hres g2 (fun q => by injection q with q; exact h.nN.2.2 q.symm), blk_set hbox 1 _, hown.far g2 (own_blk_ne hown.2 hbox (by decide)), o.far g2 (own_blk_ne o.2 hbox (by decide)), h.nN, h.bE⟩, hbox⟩
def DecD (w : World) (X : List Int) (e : Ending) (w' : World) : Prop := ∃ da dn dc aa an ac s x y, e = .returned (.tuple #[.agg #[.slice da dn dc, .slice aa an ac, .int .i64 s, .int .i64 x], .int .i64 y]) ∧ Hid (∀ v, decE X = .ok v → y = 0 ∧ s = v.1 ∧ x = v.2.1 ∧ IntsR w' (.slice da dn dc) v.2.2.1 ∧ MetsR w' (.slice aa an ac) v.2.2.2) ∧ Hid (∀ q, decE X = .error q → y ≠ 0) ∧ Hid (Below w.heap.size w w')
theorem DecD.bad {w w' : World} {X : List Int} {y : Int} (hy : y ≠ 0) (hd : ∃ q, decE X = .error q) (hb : Below w.heap.size w w') : DecD w X (.returned (.tuple #[.agg #[.slice none 0 0, .slice none 0 0, .int .i64 0, .int .i64 0], .int .i64 y])) w' :=
  ⟨none, 0, 0, none, 0, 0, 0, 0, y, rfl, (fun v hv => by obtain ⟨q, hq⟩ := hd; rw [hq] at hv; cases hv), (fun q _ => hy), hb⟩
set_option maxHeartbeats 16000000 in
set_option maxRecDepth 100000 in
theorem refDecE_any (X : List Int) (a : Option Addr) (c : Nat) (w0 : World) (hx : Octs w0 (.slice a X.length c) X) (hl : X.length ≤ 140737488355328) :
    Calls Tryz.prog 57 #[.slice a X.length c] w0 (DecD w0 X) := by
  obtain ⟨Post, hP⟩ : ∃ Post : Ending → World → Prop, Post = DecD w0 X := ⟨_, rfl⟩
  have HP : Hid (∀ e w', DecD w0 X e w' → Post e w') := fun e w' h => by rw [hP]; exact h
  rw [← hP]
  clear hP
  obtain ⟨w3, hw3⟩ : ∃ w3, w3 = ((w0.alloc (.cells #[.slice none 0 0, .slice none 0 0, .int .i64 0, .int .i64 0] 31)).alloc (.cells #[.slice a X.length c, .int .i64 0, .int .i64 0] 185)).alloc (.cells #[.slice none 0 0, .slice none 0 0, .int .i64 0, .int .i64 0] 31) := ⟨_, rfl⟩
  have HW3 : Hid (((w0.alloc (.cells #[.slice none 0 0, .slice none 0 0, .int .i64 0, .int .i64 0] 31)).alloc (.cells #[.slice a X.length c, .int .i64 0, .int .i64 0] 185)).alloc (.cells #[.slice none 0 0, .slice none 0 0, .int .i64 0, .int .i64 0] 31) = w3) := hid hw3.symm
  have sz1 : ∀ (W : World) (o : Obj), (W.alloc o).heap.size = W.heap.size + 1 := fun W o => by simp
  have U3 : Below w0.heap.size w0 w3 := by rw [hw3]; exact up_al (up_al (up_alloc _ _) _) _
  have b0 : w3.heap[w0.heap.size]? = some (.cells #[.slice none 0 0, .slice none 0 0, .int .i64 0, .int .i64 0] 31) := by rw [hw3]; exact blk_up (blk_up (blk_new _ _) (up_alloc _ _)) (up_alloc _ _)
  have b1 : w3.heap[w0.heap.size + 1]? = some (.cells #[.slice a X.length c, .int .i64 0, .int .i64 0] 185) := by
    rw [hw3, ← sz1 w0 (.cells #[.slice none 0 0, .slice none 0 0, .int .i64 0, .int .i64 0] 31)]
    exact blk_up (blk_new _ _) (up_alloc _ _)
  have b2 : w3.heap[w0.heap.size + 1 + 1]? = some (.cells #[.slice none 0 0, .slice none 0 0, .int .i64 0, .int .i64 0] 31) := by
    rw [hw3, ← sz1 w0 (.cells #[.slice none 0 0, .slice none 0 0, .int .i64 0, .int .i64 0] 31), ← sz1 (w0.alloc (.cells #[.slice none 0 0, .slice none 0 0, .int .i64 0, .int .i64 0] 31)) (.cells #[.slice a X.length c, .int .i64 0, .int .i64 0] 185)]
    exact blk_new _ _
  have D3 : Hid (DS w0 w3 w0.heap.size (w0.heap.size + 1) (w0.heap.size + 1 + 1) X a c 0 0 (.slice none 0 0) (.slice none 0 0) [] [] 0 0) :=
    ⟨⟨U3, by omega, b1, hx, Nat.zero_le _, hl⟩, b0, b2, OwnR.nil _ _ _ _, OwnR.nil _ _ _ _, ⟨by omega, by omega, by omega⟩, ⟨by omega, by omega⟩⟩
  have hl63 : (X.length : Int) ≤ 9223372036854775807 := by omega
  clear hw3 sz1 U3 b0 b1 b2 hx hl
  go_enter Tryz.func57, Tryz.ntmps57
  go_upto_region 3 with fail
  rw [HW3.out]
  clear HW3
  generalize hE : w0.heap.size + 1 + 1 = E at *
  generalize hN : w0.heap.size + 1 = N at *
  generalize hE0 : w0.heap.size = E0 at *
  clear hE hN
  have HE0 := hid hE0
  clear hE0
  have hX0 : X = X.drop 0 := rfl
  have HDR : Hid (∀ s x is ms r y, decR X = ((s, x, is, ms), (r, y)) → (y ≠ 0 ∨ r ≠ [] → ∃ q, decE X = .error q) ∧ (y = 0 → r = [] → decE X = .ok (s, x, is, ms))) := by
    intro s x is ms r y h
    refine ⟨fun q => decR_err (by rw [h]; exact q), fun q1 q2 => ?_⟩
    have := decR_fine (l := X) (by rw [h]; exact q1) (by rw [h]; exact q2)
    rw [h] at this
    exact this
  clear hX0
  go_wp2_with fail
  refine (refNumS N X a c 0 0 1099511627776 1 w0 w3 D3.out.rq (by decide) (by decide)).mono ?_
  rintro e w4 ⟨n1, k1, y1, rfl, -, Q1, R4, g4⟩
  have D4 := hid (D3.out.num R4.out g4.out)
  have x2 := blk_cell D4.out.box 2 _ rfl
  have f2 := blk_frozen D4.out.box 2
  have D5 := hid (D4.out.set2 n1)
  clear D3 R4 g4
  go_upto_region 4 with fail
  clear x2 f2 D4
  generalize w4.setCell ⟨E, 2, none⟩ (.int .i64 n1) = w5 at *
  go_wp2_with fail
  refine (refNumS N X a c k1 y1 1099511627776 1 w0 w5 D5.out.rq (by decide) (by decide)).mono ?_
  rintro e w6 ⟨n2, k2, y2, rfl, -, Q2, R6, g6⟩
  have D6 := hid (D5.out.num R6.out g6.out)
  have x3 := blk_cell D6.out.box 3 _ rfl
  have f3 := blk_frozen D6.out.box 3
  have D7 := hid (D6.out.set3 n2)
  clear D5 R6 g6
  go_upto_region 5 with fail
  clear x3 f3 D6
  generalize w6.setCell ⟨E, 3, none⟩ (.int .i64 n2) = w7 at *
  go_wp2_with fail
  refine (refNumS N X a c k2 y2 256 3 w0 w7 D7.out.rq (by decide) (by decide)).mono ?_
  rintro e w8 ⟨n3, k3, y3, rfl, hn3, Q3, R8, g8⟩
  obtain ⟨nn, rfl⟩ : ∃ m : Nat, n3 = (m : Int) := ⟨n3.toNat, by have := hn3.out; omega⟩
  have hnn : nn ≤ 256 := by have := hn3.out; omega
  have HNN := hid hnn
  have D8 := hid (D7.out.num R8.out g8.out)
  clear D7 R8 g8 hn3 hnn
  obtain ⟨F1, hF1⟩ : ∃ F1, F1 = idsR nn [] (X.drop k3, y3) := ⟨_, rfl⟩
  have HF1 : Hid (idsR (nn - 0) [] (X.drop k3, y3) = F1) := by rw [hF1]; rfl
  have HF1' : Hid (idsR nn [] (X.drop k3, y3) = F1) := hF1.symm
  clear hF1
  go_wp2_with fail
  go_loopw [7] (fun s7 wr => ∃ (i k : Nat) (y : Int) (va : Option Addr) (vn vc : Nat) (ds : List Int), i ≤ nn ∧ s7 = .int .i64 (i : Int) ∧ Hid (DS w0 wr E0 N E X a c k y (.slice va vn vc) (.slice none 0 0) ds [] n1 n2) ∧ Hid (idsR (nn - i) ds (X.drop k, y) = F1) ∧ Hid (ds.length ≤ i)) (fun s7 _ => nn - (intOf s7).toNat)
  case atStart => exact ⟨0, k3, y3, none, 0, 0, [], Nat.zero_le _, rfl, D8, HF1, Nat.le_refl _⟩
  case round =>
    clear D8 HF1
    obtain ⟨i, k, y, va, vn, vc, ds, hi, rfl, DD, HF, HLn⟩ := hrel
    have e2 := blk_cell DD.out.rq.blk 2 _ rfl
    have hi63 : (i : Int) + 1 ≤ 9223372036854775807 := by have := HNN.out; omega
    have exitI : (¬ i < nn ∨ y ≠ 0) → F1 = (ds, (X.drop k, y)) := by
      intro q
      rw [← HF.out]
      rcases q with q | q
      · rw [show nn - i = 0 by omega]; rfl
      · exact idsR_stay _ _ _ q
    have HX := hid exitI
    clear exitI
    go_upto_region 7 with fail
    go_cut [32] from 23 to 31 (fun sV wx => sV = .bool (decide (i < nn ∧ y = 0)) ∧ wx = wr)
    case first =>
      by_cases h1 : i < nn
      · have h1' : (i : Int) < (nn : Int) := by omega
        by_cases h2 : y = 0
        · subst h2
          go_wp2_with fail
          go_meet
          case rel => exact ⟨by simp [h1], rfl⟩
        · have h2b : (y == 0) = false := by simpa using h2
          have h3 : decide (i < nn ∧ y = 0) = false := decide_eq_false (fun q => h2 q.2)
          clear h2
          go_wp2_with fail
          go_meet
          case rel => exact ⟨by rw [h3], rfl⟩
      · have h1' : ¬ (i : Int) < (nn : Int) := by omega
        have h3 : decide (i < nn ∧ y = 0) = false := decide_eq_false (fun q => h1 q.1)
        clear h1
        go_wp2_with fail
        go_meet
        case rel => exact ⟨by rw [h3], rfl⟩
    case rest =>
    obtain ⟨rfl, hcw⟩ := hcut
    rw [hcw]
    clear hcw
    by_cases hlt : i < nn ∧ y = 0
    · rw [show decide (i < nn ∧ y = 0) = true from decide_eq_true hlt]
      obtain ⟨hlt, rfl⟩ := hlt
      have hlt' : (i : Int) < (nn : Int) := by omega
      have HNx : Hid (idsR (nn - i) ds (X.drop k, 0) = idsR (nn - (i + 1)) (ds ++ [(numR 1099511627776 1 (X.drop k, 0)).1]) (numR 1099511627776 1 (X.drop k, 0)).2) := by
        unfold Hid
        rw [show nn - i = (nn - (i + 1)) + 1 by omega, idsR, if_pos rfl]
      clear HX
      go_wp2_with fail
      refine (refNumS N X a c k 0 1099511627776 1 w0 wr DD.out.rq (by decide) (by decide)).mono ?_
      rintro e wa ⟨m, k', y', rfl, -, Qm, Ra, ga⟩
      rw [HF.out, Qm.out] at HNx
      simp only at HNx
      have Da := hid (DD.out.num Ra.out ga.out)
      clear DD Ra ga e2 HF Qm
      have Db : Hid (DS w0 (wa.alloc (.cells #[.int .i64 m] 3)) E0 N E X a c k' y' (.slice va vn vc) (.slice none 0 0) ds [] n1 n2) := Da.out.up (up_alloc _ _)
      have z0 := blk_cell Da.out.box 0 _ rfl
      have HB1 : Hid ((((ds.map irow).length + 1) + ((ds.map irow).length + 1) / 4 + 192) * 8 ≤ 281474976710656 ∧ (ds.map irow).length + 1 ≤ maxLen) := by
        have := HLn.out
        have := HNN.out
        unfold Hid maxLen
        simp only [List.length_map]
        omega
      have HRo : Hid (Rws 1 (wa.alloc (.cells #[.int .i64 m] 3)) (.slice (some ⟨wa.heap.size, 0, none⟩) 1 1) [irow m]) := row_made wa 3 (irow m) 1 rfl
      have HOc : Hid (∀ cs ∈ [irow m], ∀ u ∈ cs, u.oneCell' = true) := by
        intro cs hcs u hu
        rw [List.mem_singleton] at hcs
        subst hcs
        rw [irow, List.mem_singleton] at hu
        subst hu
        rfl
      have SzB : Hid (w0.heap.size ≤ (wa.alloc (.cells #[.int .i64 m] 3)).heap.size) := Db.out.rq.up.size
      go_wp2_with (at_builtin; refine wpList_append_rows _ rfl _ _ 29 3 _ 1 8 rfl Tryz.underlying29 Tryz.info3 rfl (by decide) w0.heap.size (.slice va vn vc) (ds.map irow) rfl Db.out.own (.slice (some ⟨wa.heap.size, 0, none⟩) 1 1) [irow m] rfl HRo.out HOc.out HB1.out.1 HB1.out.2 SzB.out ?_; intro vb wb ob gb; obtain ⟨ab, nb, cb, evb, ob⟩ := rows_shapeE ob; subst evb; have Dc := hid (Db.out.drop (ds' := ds ++ [m]) (by rw [List.map_append]; exact ob) gb); have q0 := blk_cell Dc.out.2 0 _ rfl; have f0 := blk_frozen Dc.out.2 0)
      have HL2 : Hid ((ds ++ [m]).length ≤ i + 1) := by have := HLn.out; unfold Hid; rw [List.length_append]; simp; omega
      exact ⟨⟨i + 1, k', y', _, _, _, ds ++ [m], by omega, by go_num, Dc.out.1, HNx.out.symm, HL2⟩, by simp [intOf]; omega⟩
    · have HFe : Hid (F1 = (ds, (X.drop k, y))) := HX.out (by
        by_cases h1 : i < nn
        · exact .inr (fun h2 => hlt ⟨h1, h2⟩)
        · exact .inl h1)
      have D9 := DD
      clear HX HF DD
      rw [show decide (i < nn ∧ y = 0) = false from decide_eq_false hlt]
      clear hlt
      go_wp2_with fail
      have D9 := D9
      refine (refNumS N X a c k y 256 3 w0 wr D9.out.rq (by decide) (by decide)).mono ?_
      rintro e w10 ⟨n5, k5, y5, rfl, hn5, Q5, R10, g10⟩
      obtain ⟨mm, rfl⟩ : ∃ m : Nat, n5 = (m : Int) := ⟨n5.toNat, by have := hn5.out; omega⟩
      have hmm : mm ≤ 256 := by have := hn5.out; omega
      have HMM := hid hmm
      have D10 := hid (D9.out.num R10.out g10.out)
      clear D9 R10 g10 hn5 hmm e2
      obtain ⟨F2, hF2⟩ : ∃ F2, F2 = metsR mm [] (X.drop k5, y5) := ⟨_, rfl⟩
      have HF2 : Hid (metsR (mm - 0) [] (X.drop k5, y5) = F2) := by rw [hF2]; rfl
      have HDR2 : Hid (decR X = ((n1, n2, ds, F2.1), F2.2)) := by
        unfold Hid decR
        rw [show ((X, (0 : Int)) : List Int × Int) = (X.drop 0, 0) from rfl, Q1.out]
        simp only
        rw [Q2.out]
        simp only
        rw [Q3.out]
        simp only [Int.toNat_natCast]
        rw [HF1'.out, HFe.out]
        simp only
        rw [Q5.out]
        simp only [Int.toNat_natCast]
        rw [hF2]
      clear hF2 Q1 Q2 Q3 HF1' HFe Q5
      go_wp2_with fail
      go_loopw [10] (fun s10 wr => ∃ (i k : Nat) (y : Int) (ma : Option Addr) (mn mc : Nat) (tl : List Me), i ≤ mm ∧ s10 = .int .i64 (i : Int) ∧ Hid (DS w0 wr E0 N E X a c k y (.slice va vn vc) (.slice ma mn mc) ds tl n1 n2) ∧ Hid (metsR (mm - i) tl (X.drop k, y) = F2) ∧ Hid (tl.length ≤ i)) (fun s10 _ => mm - (intOf s10).toNat)
      case atStart => exact ⟨0, k5, y5, none, 0, 0, [], Nat.zero_le _, rfl, D10, HF2, Nat.le_refl _⟩
      case round =>
        clear D10 HF2
        obtain ⟨i, k, y, ma, mn, mc, tl, hi, rfl, DD, HF, HLn⟩ := hrel
        have e2 := blk_cell DD.out.rq.blk 2 _ rfl
        have hi63 : (i : Int) + 1 ≤ 9223372036854775807 := by have := HMM.out; omega
        have exitI : (¬ i < mm ∨ y ≠ 0) → F2 = (tl, (X.drop k, y)) := by
          intro q
          rw [← HF.out]
          rcases q with q | q
          · rw [show mm - i = 0 by omega]; rfl
          · exact metsR_stay _ _ _ q
        have HX := hid exitI
        clear exitI
        go_upto_region 13 with fail
        go_cut [54] from 45 to 53 (fun sV wx => sV = .bool (decide (i < mm ∧ y = 0)) ∧ wx = wr)
        case first =>
          by_cases h1 : i < mm
          · have h1' : (i : Int) < (mm : Int) := by omega
            by_cases h2 : y = 0
            · subst h2
              go_wp2_with fail
              go_meet
              case rel => exact ⟨by simp [h1], rfl⟩
            · have h2b : (y == 0) = false := by simpa using h2
              have h3 : decide (i < mm ∧ y = 0) = false := decide_eq_false (fun q => h2 q.2)
              clear h2
              go_wp2_with fail
              go_meet
              case rel => exact ⟨by rw [h3], rfl⟩
          · have h1' : ¬ (i : Int) < (mm : Int) := by omega
            have h3 : decide (i < mm ∧ y = 0) = false := decide_eq_false (fun q => h1 q.1)
            clear h1
            go_wp2_with fail
            go_meet
            case rel => exact ⟨by rw [h3], rfl⟩
        case rest =>
        obtain ⟨rfl, hcw⟩ := hcut
        rw [hcw]
        clear hcw
        by_cases hlt : i < mm ∧ y = 0
        · rw [show decide (i < mm ∧ y = 0) = true from decide_eq_true hlt]
          obtain ⟨hlt, rfl⟩ := hlt
          have hlt' : (i : Int) < (mm : Int) := by omega
          have HNx : Hid (metsR (mm - i) tl (X.drop k, 0) = metsR (mm - (i + 1)) (tl ++ [(metR (X.drop k, 0)).1]) (metR (X.drop k, 0)).2) := by
            unfold Hid
            rw [show mm - i = (mm - (i + 1)) + 1 by omega, metsR, if_pos rfl]
          rw [HF.out] at HNx
          clear HX HF
          have NB := hid DD.out.bE
          obtain ⟨wa, hwa⟩ : ∃ wa, wa = wr.alloc (.cells #[.int .i64 0, .int .i64 0, .int .i64 0, .string ⟨#[]⟩, .string ⟨#[]⟩] 139) := ⟨_, rfl⟩
          have HWa : Hid (wr.alloc (.cells #[.int .i64 0, .int .i64 0, .int .i64 0, .string ⟨#[]⟩, .string ⟨#[]⟩] 139) = wa) := hid hwa.symm
          have Da : Hid (DS w0 wa E0 N E X a c k 0 (.slice va vn vc) (.slice ma mn mc) ds tl n1 n2) := by rw [hwa]; exact DD.out.up (up_alloc _ _)
          have Ma : Hid (wa.heap[wr.heap.size]? = some (.cells #[.int .i64 0, .int .i64 0, .int .i64 0, .string ⟨#[]⟩, .string ⟨#[]⟩] 139)) := by rw [hwa]; exact blk_new _ _
          have HNM : Hid (w0.heap.size ≤ wr.heap.size ∧ wr.heap.size ≠ N ∧ E ≠ wr.heap.size ∧ E0 ≠ wr.heap.size ∧ ((Value.slice va vn vc).ownBlock = none ∨ (Value.slice va vn vc).ownBlock ≠ some wr.heap.size) ∧ ((Value.slice ma mn mc).ownBlock = none ∨ (Value.slice ma mn mc).ownBlock ≠ some wr.heap.size)) := by
            refine ⟨DD.out.rq.up.size, fun q => by have := blk_lt DD.out.rq.blk; omega, fun q => by have := blk_lt DD.out.box; omega, fun q => by have := blk_lt DD.out.res; omega, .inr (fun q => by have := (DD.out.own.2.lt _ q).2; omega), .inr (fun q => by have := (DD.out.adds.2.lt _ q).2; omega)⟩
          clear hwa DD
          go_upto_region 16 with fail
          rw [HWa.out]
          clear HWa e2
          generalize wr.heap.size = NM at *
          go_wp2_with fail
          refine (refNumS N X a c k 0 1099511627776 1 w0 wa Da.out.rq (by decide) (by decide)).mono ?_
          rintro e wb ⟨j1, kk1, yy1, rfl, -, QM1, Rb, gb⟩
          have Db := hid (Da.out.num Rb.out gb.out)
          have Mb : Hid (wb.heap[NM]? = some (.cells #[.int .i64 0, .int .i64 0, .int .i64 0, .string ⟨#[]⟩, .string ⟨#[]⟩] 139)) := blk_grown Ma.out gb.out (fun q => by injection q with q; exact HNM.out.2.1 q)
          have c0 := blk_cell Mb.out 0 _ rfl
          have f0 := blk_frozen Mb.out 0
          have Db' := hid (Db.out.far (grown_set wb ⟨NM, 0, none⟩ (.int .i64 j1)) HNM.out.1 HNM.out.2.1 HNM.out.2.2.1 HNM.out.2.2.2.1 HNM.out.2.2.2.2.1 HNM.out.2.2.2.2.2)
          have Mb' : Hid ((wb.setCell ⟨NM, 0, none⟩ (.int .i64 j1)).heap[NM]? = some (.cells #[.int .i64 j1, .int .i64 0, .int .i64 0, .string ⟨#[]⟩, .string ⟨#[]⟩] 139)) := blk_set Mb.out 0 _
          clear Da Ma Rb gb Db Mb
          go_upto_region 17 with fail
          clear c0 f0
          generalize wb.setCell ⟨NM, 0, none⟩ (.int .i64 j1) = wb2 at *
          go_wp2_with fail
          refine (refNumS N X a c kk1 yy1 1099511627776 1 w0 wb2 Db'.out.rq (by decide) (by decide)).mono ?_
          rintro e wc ⟨j2, kk2, yy2, rfl, -, QM2, Rc, gc⟩
          have Dc := hid (Db'.out.num Rc.out gc.out)
          have Mc : Hid (wc.heap[NM]? = some (.cells #[.int .i64 j1, .int .i64 0, .int .i64 0, .string ⟨#[]⟩, .string ⟨#[]⟩] 139)) := blk_grown Mb'.out gc.out (fun q => by injection q with q; exact HNM.out.2.1 q)
          have c1 := blk_cell Mc.out 1 _ rfl
          have f1 := blk_frozen Mc.out 1
          have Dc' := hid (Dc.out.far (grown_set wc ⟨NM, 1, none⟩ (.int .i64 j2)) HNM.out.1 HNM.out.2.1 HNM.out.2.2.1 HNM.out.2.2.2.1 HNM.out.2.2.2.2.1 HNM.out.2.2.2.2.2)
          have Mc' : Hid ((wc.setCell ⟨NM, 1, none⟩ (.int .i64 j2)).heap[NM]? = some (.cells #[.int .i64 j1, .int .i64 j2, .int .i64 0, .string ⟨#[]⟩, .string ⟨#[]⟩] 139)) := blk_set Mc.out 1 _
          clear Db' Mb' Rc gc Dc Mc
          go_upto_region 18 with fail
          clear c1 f1
          generalize wc.setCell ⟨NM, 1, none⟩ (.int .i64 j2) = wc2 at *
          go_wp2_with fail
          refine (refNumS N X a c kk2 yy2 1099511627776 1 w0 wc2 Dc'.out.rq (by decide) (by decide)).mono ?_
          rintro e wd ⟨j3, kk3, yy3, rfl, -, QM3, Rd, gd⟩
          have Dd := hid (Dc'.out.num Rd.out gd.out)
          have Md : Hid (wd.heap[NM]? = some (.cells #[.int .i64 j1, .int .i64 j2, .int .i64 0, .string ⟨#[]⟩, .string ⟨#[]⟩] 139)) := blk_grown Mc'.out gd.out (fun q => by injection q with q; exact HNM.out.2.1 q)
          have c2 := blk_cell Md.out 2 _ rfl
          have f2 := blk_frozen Md.out 2
          have Dd' := hid (Dd.out.far (grown_set wd ⟨NM, 2, none⟩ (.int .i64 j3)) HNM.out.1 HNM.out.2.1 HNM.out.2.2.1 HNM.out.2.2.2.1 HNM.out.2.2.2.2.1 HNM.out.2.2.2.2.2)
          have Md' : Hid ((wd.setCell ⟨NM, 2, none⟩ (.int .i64 j3)).heap[NM]? = some (.cells #[.int .i64 j1, .int .i64 j2, .int .i64 j3, .string ⟨#[]⟩, .string ⟨#[]⟩] 139)) := blk_set Md.out 2 _
          clear Dc' Mc' Rd gd Dd Md
          go_upto_region 19 with fail
          clear c2 f2
          generalize wd.setCell ⟨NM, 2, none⟩ (.int .i64 j3) = wd2 at *
          go_wp2_with fail
          refine (refTextS N X a c kk3 yy3 w0 wd2 Dd'.out.rq).mono ?_
          rintro e wf ⟨t4, kk4, yy4, rfl, QM4, Rf, gf⟩
          have Df := hid (Dd'.out.num Rf.out gf.out)
          have Mf : Hid (wf.heap[NM]? = some (.cells #[.int .i64 j1, .int .i64 j2, .int .i64 j3, .string ⟨#[]⟩, .string ⟨#[]⟩] 139)) := blk_grown Md'.out gf.out (fun q => by injection q with q; exact HNM.out.2.1 q)
          have c3 := blk_cell Mf.out 3 _ rfl
          have f3 := blk_frozen Mf.out 3
          have Df' := hid (Df.out.far (grown_set wf ⟨NM, 3, none⟩ (.string t4)) HNM.out.1 HNM.out.2.1 HNM.out.2.2.1 HNM.out.2.2.2.1 HNM.out.2.2.2.2.1 HNM.out.2.2.2.2.2)
          have Mf' : Hid ((wf.setCell ⟨NM, 3, none⟩ (.string t4)).heap[NM]? = some (.cells #[.int .i64 j1, .int .i64 j2, .int .i64 j3, .string t4, .string ⟨#[]⟩] 139)) := blk_set Mf.out 3 _
          clear Dd' Md' Rf gf Df Mf
          go_upto_region 20 with fail
          clear c3 f3
          generalize wf.setCell ⟨NM, 3, none⟩ (.string t4) = wf2 at *
          go_wp2_with fail
          refine (refTextS N X a c kk4 yy4 w0 wf2 Df'.out.rq).mono ?_
          rintro e wg ⟨t5, kk5, yy5, rfl, QM5, Rg, gg⟩
          have Dg := hid (Df'.out.num Rg.out gg.out)
          have Mg : Hid (wg.heap[NM]? = some (.cells #[.int .i64 j1, .int .i64 j2, .int .i64 j3, .string t4, .string ⟨#[]⟩] 139)) := blk_grown Mf'.out gg.out (fun q => by injection q with q; exact HNM.out.2.1 q)
          have c4 := blk_cell Mg.out 4 _ rfl
          have f4 := blk_frozen Mg.out 4
          have Dg' := hid (Dg.out.far (grown_set wg ⟨NM, 4, none⟩ (.string t5)) HNM.out.1 HNM.out.2.1 HNM.out.2.2.1 HNM.out.2.2.2.1 HNM.out.2.2.2.2.1 HNM.out.2.2.2.2.2)
          have Mg' : Hid ((wg.setCell ⟨NM, 4, none⟩ (.string t5)).heap[NM]? = some (.cells #[.int .i64 j1, .int .i64 j2, .int .i64 j3, .string t4, .string t5] 139)) := blk_set Mg.out 4 _
          clear Df' Mf' Rg gg Dg Mg
          go_upto_region 21 with fail
          clear c4 f4
          generalize wg.setCell ⟨NM, 4, none⟩ (.string t5) = wg2 at *
          have HMe : Hid (metR (X.drop k, 0) = (⟨j1, j2, j3, t4, t5⟩, (X.drop kk5, yy5))) := by
            unfold Hid metR
            simp only [QM1.out, QM2.out, QM3.out, QM4.out, QM5.out]
          rw [HMe.out] at HNx
          simp only at HNx
          clear QM1 QM2 QM3 QM4 QM5 HMe
          have c0 := blk_cell Mg'.out 0 _ rfl
          have c1 := blk_cell Mg'.out 1 _ rfl
          have c2 := blk_cell Mg'.out 2 _ rfl
          have c3 := blk_cell Mg'.out 3 _ rfl
          have c4 := blk_cell Mg'.out 4 _ rfl
          have z1 := blk_cell Dg'.out.box 1 _ rfl
          have Dh : Hid (DS w0 (wg2.alloc (.cells #[.int .i64 j1, .int .i64 j2, .int .i64 j3, .string t4, .string t5] 139)) E0 N E X a c kk5 yy5 (.slice va vn vc) (.slice ma mn mc) ds tl n1 n2) := Dg'.out.up (up_alloc _ _)
          have HB1 : Hid ((((tl.map meRow).length + 1) + ((tl.map meRow).length + 1) / 4 + 192) * 56 ≤ 281474976710656 ∧ (tl.map meRow).length + 1 ≤ maxLen) := by
            have := HLn.out
            have := HMM.out
            unfold Hid maxLen
            simp only [List.length_map]
            omega
          have HRo : Hid (Rws 5 (wg2.alloc (.cells #[.int .i64 j1, .int .i64 j2, .int .i64 j3, .string t4, .string t5] 139)) (.slice (some ⟨wg2.heap.size, 0, none⟩) 1 1) [meRow ⟨j1, j2, j3, t4, t5⟩]) := row_made wg2 139 (meRow ⟨j1, j2, j3, t4, t5⟩) 5 rfl
          have HOc : Hid (∀ cs ∈ [meRow ⟨j1, j2, j3, t4, t5⟩], ∀ u ∈ cs, u.oneCell' = true) := by
            intro cs hcs u hu
            rw [List.mem_singleton] at hcs
            subst hcs
            exact meRow_one _ u hu
          have SzB : Hid (w0.heap.size ≤ (wg2.alloc (.cells #[.int .i64 j1, .int .i64 j2, .int .i64 j3, .string t4, .string t5] 139)).heap.size) := Dh.out.rq.up.size
          go_wp2_with (at_builtin; refine wpList_append_rows _ rfl _ _ 26 139 _ 5 56 rfl Tryz.underlying26 Tryz.info139 rfl (by decide) w0.heap.size (.slice ma mn mc) (tl.map meRow) rfl Dh.out.adds (.slice (some ⟨wg2.heap.size, 0, none⟩) 1 1) [meRow ⟨j1, j2, j3, t4, t5⟩] rfl HRo.out HOc.out HB1.out.1 HB1.out.2 SzB.out ?_; intro vb wb ob gb; obtain ⟨ab, nb, cb, evb, ob⟩ := rows_shapeE ob; subst evb; have Dc := hid (Dh.out.add (tl' := tl ++ [(⟨j1, j2, j3, t4, t5⟩ : Me)]) (by rw [List.map_append]; exact ob) gb); have q1 := blk_cell Dc.out.2 1 _ rfl; have f1 := blk_frozen Dc.out.2 1)
          have HL2 : Hid ((tl ++ [(⟨j1, j2, j3, t4, t5⟩ : Me)]).length ≤ i + 1) := by have := HLn.out; unfold Hid; rw [List.length_append]; simp; omega
          exact ⟨⟨i + 1, kk5, yy5, _, _, _, tl ++ [(⟨j1, j2, j3, t4, t5⟩ : Me)], by omega, by go_num, Dc.out.1, HNx.out.symm, HL2⟩, by simp [intOf]; omega⟩
        · have HFe : Hid (F2 = (tl, (X.drop k, y))) := HX.out (by
            by_cases h1 : i < mm
            · exact .inr (fun h2 => hlt ⟨h1, h2⟩)
            · exact .inl h1)
          rw [HFe.out] at HDR2
          have HDf := hid (HDR.out _ _ _ _ _ _ HDR2.out)
          have D9 := DD
          rw [show decide (i < mm ∧ y = 0) = false from decide_eq_false hlt]
          clear HX hlt HF DD HFe HDR2 HDR
          by_cases hy : y = 0
          · subst hy
            have k1 := blk_cell D9.out.rq.blk 1 _ rfl
            have hkl := D9.out.rq.le
            have r0 := blk_cell D9.out.res 0 _ rfl
            have r1 := blk_cell D9.out.res 1 _ rfl
            have r2 := blk_cell D9.out.res 2 _ rfl
            have r3 := blk_cell D9.out.res 3 _ rfl
            have fr0 := blk_frozen D9.out.res 0
            have fr1 := blk_frozen D9.out.res 1
            have fr2 := blk_frozen D9.out.res 2
            have fr3 := blk_frozen D9.out.res 3
            have HUP : Hid (∀ W, wr.grownBy W (some E0) → Below w0.heap.size w0 W) := fun W g => D9.out.rq.up.grown g D9.out.rq.up.size (fun q e => by injection e with e; subst e; exact D9.out.bE.2)
            by_cases hkx : k < X.length
            · have hkx' : (k : Int) < (X.length : Int) := by omega
              have HBd : Hid (∃ q, decE X = .error q) := HDf.out.1 (.inr (by
                intro q
                have := congrArg List.length q
                rw [List.length_drop, List.length_nil] at this
                omega))
              clear hkx
              go_wp2_with fail
              refine bodyPost_ret (results_edt rfl (.inr rfl) _ _ rfl (set4_blk D9.out.res _ _ _ _)) rfl ?_
              exact HP.out _ _ (DecD.bad (by decide) HBd.out (HUP.out _ (set4_grown _ _ _ _ _ _)))
            · have hkx' : ¬ (k : Int) < (X.length : Int) := by omega
              have HOk : Hid (decE X = .ok (n1, n2, ds, tl)) := HDf.out.2 rfl (List.drop_eq_nil_of_le (by omega))
              have z0 := blk_cell D9.out.box 0 _ rfl
              have z1 := blk_cell D9.out.box 1 _ rfl
              have z2 := blk_cell D9.out.box 2 _ rfl
              have z3 := blk_cell D9.out.box 3 _ rfl
              have HOd : Hid (IntsR (((((wr.setCell ⟨E0, 0, none⟩ (.slice va vn vc)).setCell ⟨E0, 1, none⟩ (.slice ma mn mc)).setCell ⟨E0, 2, none⟩ (.int .i64 n1)).setCell ⟨E0, 3, none⟩ (.int .i64 n2))) (.slice va vn vc) ds) := Rws.own (D9.out.own.far (set4_grown _ _ _ _ _ _) (own_blk_ne D9.out.own.2 D9.out.res (by decide)))
              have HOa : Hid (MetsR (((((wr.setCell ⟨E0, 0, none⟩ (.slice va vn vc)).setCell ⟨E0, 1, none⟩ (.slice ma mn mc)).setCell ⟨E0, 2, none⟩ (.int .i64 n1)).setCell ⟨E0, 3, none⟩ (.int .i64 n2))) (.slice ma mn mc) tl) := Rws.own (D9.out.adds.far (set4_grown _ _ _ _ _ _) (own_blk_ne D9.out.adds.2 D9.out.res (by decide)))
              clear hkx
              go_wp2_with fail
              refine bodyPost_ret (results_edt rfl (.inr rfl) _ _ rfl (set4_blk D9.out.res _ _ _ _)) rfl ?_
              refine HP.out _ _ ⟨va, vn, vc, ma, mn, mc, n1, n2, 0, rfl, ?_, ?_, HUP.out _ (set4_grown _ _ _ _ _ _)⟩
              · intro v hv
                rw [HOk.out] at hv
                injection hv with hv
                subst hv
                exact ⟨rfl, rfl, rfl, HOd.out, HOa.out⟩
              · intro q hq
                rw [HOk.out] at hq
                cases hq
          · have hyb : (y != 0) = true := by simpa using hy
            have HY := hid hy
            have r0 := blk_cell D9.out.res 0 _ rfl
            have r1 := blk_cell D9.out.res 1 _ rfl
            have r2 := blk_cell D9.out.res 2 _ rfl
            have r3 := blk_cell D9.out.res 3 _ rfl
            have fr0 := blk_frozen D9.out.res 0
            have fr1 := blk_frozen D9.out.res 1
            have fr2 := blk_frozen D9.out.res 2
            have fr3 := blk_frozen D9.out.res 3
            have BD : Hid (Below w0.heap.size w0 (((((wr.setCell ⟨E0, 0, none⟩ (.slice none 0 0)).setCell ⟨E0, 1, none⟩ (.slice none 0 0)).setCell ⟨E0, 2, none⟩ (.int .i64 0)).setCell ⟨E0, 3, none⟩ (.int .i64 0)).drew)) := up_dr (D9.out.rq.up.grown (set4_grown wr E0 (.slice none 0 0) (.slice none 0 0) (.int .i64 0) (.int .i64 0)) D9.out.rq.up.size (fun q e => by injection e with e; subst e; exact D9.out.bE.2))
            have e2d : wr.drew.cell? ⟨N, 2, none⟩ = some (.int .i64 y) := by simpa using e2
            have t2 : ((((wr.drew.setCell ⟨E0, 0, none⟩ (.slice none 0 0)).setCell ⟨E0, 1, none⟩ (.slice none 0 0)).setCell ⟨E0, 2, none⟩ (.int .i64 0)).setCell ⟨E0, 3, none⟩ (.int .i64 0)).cell? ⟨N, 2, none⟩ = some (.int .i64 y) := (set4_grown wr.drew E0 (.slice none 0 0) (.slice none 0 0) (.int .i64 0) (.int .i64 0)).cell e2d (by intro q; injection q with q; exact D9.out.nN.2.1 q.symm)
            have t3 : ((((wr.setCell ⟨E0, 0, none⟩ (.slice none 0 0)).setCell ⟨E0, 1, none⟩ (.slice none 0 0)).setCell ⟨E0, 2, none⟩ (.int .i64 0)).setCell ⟨E0, 3, none⟩ (.int .i64 0)).cell? ⟨N, 2, none⟩ = some (.int .i64 y) := (set4_grown wr E0 (.slice none 0 0) (.slice none 0 0) (.int .i64 0) (.int .i64 0)).cell e2 (by intro q; injection q with q; exact D9.out.nN.2.1 q.symm)
            clear hy
            go_wp2_with fail
            go_region_held3 (fun w' => w'.cell? ⟨N, 2, none⟩ = some (.int .i64 y)) (first | with_reducible exact e2d | with_reducible exact t2 | with_reducible exact t3 | exact t3) (fail)
            all_goals
              go_wp2_with fail
              have b4 : (((((wr.setCell ⟨E0, 0, none⟩ (.slice none 0 0)).setCell ⟨E0, 1, none⟩ (.slice none 0 0)).setCell ⟨E0, 2, none⟩ (.int .i64 0)).setCell ⟨E0, 3, none⟩ (.int .i64 0)).drew).heap[E0]? = some (.cells #[.slice none 0 0, .slice none 0 0, .int .i64 0, .int .i64 0] 31) := set4_blk (W := wr) D9.out.res (.slice none 0 0) (.slice none 0 0) (.int .i64 0) (.int .i64 0)
              refine bodyPost_ret (results_edt rfl (.inr rfl) _ _ rfl b4) rfl ?_
              exact HP.out _ _ (DecD.bad HY.out (HDf.out.1 (.inl HY.out)) BD.out)
end Go.Proofs.YtnchjlimkgbfpaaGreatDoor
