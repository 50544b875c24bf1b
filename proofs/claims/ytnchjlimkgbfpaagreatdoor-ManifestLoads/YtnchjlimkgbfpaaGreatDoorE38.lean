/- The texts GScan, OOct, OState, OLaid, OBeg, in this order. -/
import Derived.Test.YtnchjlimkgbfpaaGreatDoorFScan
import Derived.Test.YtnchjlimkgbfpaaGreatDoorE32
import Derived.Maps.AppendAt
import Derived.Test.YtnchjlimkgbfpaaGreatDoorE23
import Derived.Test.YtnchjlimkgbfpaaGreatDoorE28
import Derived.Test.YtnchjlimkgbfpaaGreatDoorE22
import Derived.Deep.RegionHeld3
import Derived.Deep.Cut
import Derived.Test.YtnchjlimkgbfpaaGreatDoorE19
import Derived.Test.YtnchjlimkgbfpaaGreatDoorE12

namespace Go.Proofs.YtnchjlimkgbfpaaGreatDoor
open Go.RowKit SumPlain
set_option linter.unusedVariables false
theorem Tryz.info104 : (Tryz.prog.info? 104).map (fun i => (i.zero, i.size, i.bytes)) = some (some (.agg #[.int .i64 0, .slice none 0 0]), 2, 32) := by kernel_rfl
def HoldR (W : World) (base : Nat) (v : Value) (xs : List Got) : Prop :=
  OwnR W base 104 2 v (xs.map grow) ∧ ∀ x ∈ xs, NewB W base x.1 x.2.2.1 ∧ ∀ g, x.1.ownBlock = some g → x.2.2.1 ≠ [] → v.ownBlock ≠ some g
theorem HoldR.up {W W' : World} {base : Nat} {v : Value} {xs : List Got} (h : HoldR W base v xs) (hb : Below W.heap.size W W') : HoldR W' base v xs := ⟨h.1.up hb, fun x hx => ⟨(h.2 x hx).1.up hb, (h.2 x hx).2⟩⟩
theorem HoldR.snoc {W0 Wb w5 : World} {base : Nat} {v : Value} {xs : List Got} {x : Got} {v5 : Value} (h : HoldR W0 base v xs) (hu : Below W0.heap.size W0 Wb) (hx : NewB Wb W0.heap.size x.1 x.2.2.1) (hb : base ≤ W0.heap.size)
    (own5 : w5.ownsRow base 104 2 v5 (xs.length + 1) ((xs.map grow).flatten ++ grow x)) (gB : Wb.grownBy w5 v.ownBlock) (hw5 : v5.ownBlock = v.ownBlock ∨ ∃ q, v5.ownBlock = some q ∧ Wb.heap.size ≤ q) : HoldR w5 base v5 (xs ++ [x]) := by
  refine ⟨⟨?_, ?_⟩, ?_⟩
  · intro cs hcs
    obtain ⟨y, _, rfl⟩ := List.mem_map.1 hcs
    rfl
  · rw [List.length_map, List.length_append, List.map_append, List.flatten_append]
    simpa using own5
  · intro y hy
    have hb2 : NewB Wb base y.1 y.2.2.1 ∧ ∀ g, y.1.ownBlock = some g → y.2.2.1 ≠ [] → some g ≠ v.ownBlock := by
      rcases List.mem_append.1 hy with q | q
      · exact ⟨(h.2 y q).1.up hu, fun g hg hne e => (h.2 y q).2 g hg hne e.symm⟩
      · simp at q
        subst q
        exact ⟨hx.mono hb, fun g hg hne e => by have := (h.1.2.lt g e.symm).2; have := hx.2 g hg; omega⟩
    refine ⟨⟨hb2.1.1.far gB (fun g hg hne => hb2.2 g hg hne), hb2.1.2⟩, fun g hg hne e => ?_⟩
    have hlt := hb2.1.1.lt g hg hne
    rcases hw5 with q | ⟨q, q1, q2⟩
    · rw [q] at e; exact hb2.2 g hg hne e.symm
    · rw [q1] at e; simp at e; omega
set_option maxHeartbeats 2000000 in
theorem rscan_any (b : List Int) (v : Value) (w : World) (hv : Octs w v b) (hl : b.length ≤ 17592186044416) :
    Calls Tryz.prog 55 #[v] w fun e w' => ∃ a' n' c' xs, e = .returned (.tuple #[.slice a' n' c', .int .i64 ((lenOf (scanOf b) : Nat) : Int)]) ∧ Hid ((xs : List Got).map (·.2) = scanOf b ∧ HoldR w' w.heap.size (.slice a' n' c') xs) ∧ Hid (Below w.heap.size w w') := by
  obtain ⟨a, cap, rfl, hcap, _⟩ := hv.len
  have HV : Hid (Octs w (.slice a b.length cap) b) := hv
  clear hv
  go_enter Tryz.func55, Tryz.ntmps55
  go_wp2_with fail
  go_loopw [4, 5] (fun o p wr => ∃ (xs : List Got) (off f : Nat) (ao : Option Addr) (co : Nat), o = .slice ao xs.length co ∧ p = .int .i64 (off : Int) ∧ Hid (ScanAt b (xs.map (·.2)) off f) ∧ Hid (HoldR wr w.heap.size (.slice ao xs.length co) xs) ∧ Hid (Below w.heap.size w wr)) (fun _ p _ => b.length - (intOf p).toNat)
  case atStart => exact ⟨[], 0, b.length + 1, none, 0, rfl, rfl, ScanAt.start b, ⟨OwnR.nil _ _ _ _, fun x hx => (by cases hx)⟩, Below.refl _ _⟩
  case round =>
    obtain ⟨xs, off, f, ao, co, rfl, rfl, hs, hj, hb⟩ := hrel
    obtain ⟨hs1, hs2, hs3, hs4⟩ := hs.out
    have hv2 : Octs wr (.slice a b.length cap) b := HV.out.up hb.out
    have HG : ∀ v', Octs wr v' (b.drop off) → Hid (Calls Tryz.prog 97 #[v'] wr fun e w' => ∃ a' n' c', e = .returned (.tuple #[.agg #[.int .i64 (fget (b.drop off)).1, .slice a' n' c'], .int .i64 (fget (b.drop off)).2.2.1, .int .i64 (fget (b.drop off)).2.2.2]) ∧ Hid (n' = (fget (b.drop off)).2.1.length) ∧ Hid (NewB w' wr.heap.size (.slice a' n' c') (fget (b.drop off)).2.1) ∧ Hid (Below wr.heap.size wr w')) := by
      intro v' hv'
      refine (rget_any _ _ _ hv').mono ?_
      rintro e w' ⟨vd, rfl, hn, hbw⟩
      obtain ⟨a', c', rfl, _, _⟩ := hn.1.len
      exact ⟨a', _, c', rfl, rfl, hn, hbw⟩
    obtain ⟨e0, he0⟩ : ∃ e0, e0 = (fget (b.drop off)).2.2.2 := ⟨_, rfl⟩
    obtain ⟨k0, hk0⟩ : ∃ k0, k0 = (fget (b.drop off)).1 := ⟨_, rfl⟩
    obtain ⟨d0, hd0⟩ : ∃ d0, d0 = (fget (b.drop off)).2.1 := ⟨_, rfl⟩
    obtain ⟨z0, hz0⟩ : ∃ z0, z0 = (fget (b.drop off)).2.2.1 := ⟨_, rfl⟩
    rw [← he0, ← hk0, ← hd0, ← hz0] at HG
    have HE : Hid (e0 = (fget (b.drop off)).2.2.2 ∧ k0 = (fget (b.drop off)).1 ∧ d0 = (fget (b.drop off)).2.1 ∧ z0 = (fget (b.drop off)).2.2.1) := ⟨he0, hk0, hd0, hz0⟩
    clear he0 hk0 hd0 hz0
    by_cases he : e0 = 0
    · subst he
      have hok : (fget (b.drop off)).2.2.2 = 0 := HE.out.1.symm
      obtain ⟨n, hzn, h6, hnl, _⟩ := fget_ok (b.drop off) (fun x hx => HV.out.1 x (List.mem_of_mem_drop hx)) hok
      rw [List.length_drop] at hnl
      obtain ⟨hnext, _, _⟩ := hs.out.goes HV.out.1 hok hzn
      have hz : z0 = (n : Int) := by rw [HE.out.2.2.2]; exact hzn
      subst hz
      rw [← HE.out.2.1, ← HE.out.2.2.1] at hnext
      have HN : Hid (ScanAt b (xs.map (·.2) ++ [(k0, d0, n)]) (off + n) (f - 1)) := hnext
      have hlen : 6 * xs.length ≤ b.length := by
        have h1 := (scanF_len (b.length + 1) b HV.out.1).2
        have h2 : (scanOf b).length = xs.length + (scanF f (b.drop off)).length := by rw [hs1]; simp
        unfold scanOf at h2
        omega
      cases a with
      | none =>
        exfalso
        rcases HV.out.2 with ⟨e, _⟩ | ⟨_, b', off', cap', e, _⟩
        · subst e; simp at hnl; omega
        · simp at e
      | some x =>
        obtain ⟨bb, o, sp⟩ := x
        obtain rfl : sp = none := by
          rcases HV.out.2 with ⟨e, _⟩ | ⟨_, b', off', cap', e, _⟩
          · subst e; simp at hnl; omega
          · simp at e; exact e.1.2.2
        have hcut := cut_off hv2 hs3 hcap
        have G := HG _ hcut
        have hoff : off < cap := by omega
        have hoff' : (off : Int) < (cap : Int) := by omega
        have hs3' : (off : Int) ≤ (b.length : Int) := by omega
        have hon : (off : Int) + (n : Int) ≤ 17592186044416 := by omega
        have hxl : xs.length ≤ 2932031007402 := by omega
        clear HG hcut hv2 hs1 hs2 hs4 hzn hok hnext hlen
        go_wp2_with fail
        refine G.out.mono ?_
        rintro e w' ⟨a', n', c', rfl, hn', hnb, hbw⟩
        have F8 := blk_new w' (.cells #[.int .i64 k0, .slice a' n' c'] 104)
        have p0 := blk_cell F8 0 _ rfl
        have p1 := blk_cell F8 1 _ rfl
        have UB : Hid (Below wr.heap.size wr ((w'.alloc (.cells #[.int .i64 k0, .slice a' n' c'] 104)).alloc (.cells #[.int .i64 k0, .slice a' n' c'] 104))) := up_al (up_al hbw.out _) _
        have HRow : Hid (((w'.alloc (.cells #[.int .i64 k0, .slice a' n' c'] 104)).alloc (.cells #[.int .i64 k0, .slice a' n' c'] 104)).ownsRow w.heap.size 104 2 (.slice ao xs.length co) xs.length (xs.map grow).flatten) := by
          have h := (hj.out.up UB.out).1.2
          rw [List.length_map] at h
          exact h
        obtain ⟨i0, hi, hz0, hz1, hz2⟩ := info_some Tryz.info104
        have HX : Hid (NewB ((w'.alloc (.cells #[.int .i64 k0, .slice a' n' c'] 104)).alloc (.cells #[.int .i64 k0, .slice a' n' c'] 104)) wr.heap.size (.slice a' n' c') d0) := hnb.out.up (up_al (up_alloc _ _) _)
        have hsw : Hid (w.heap.size ≤ wr.heap.size ∧ wr.heap.size ≤ w'.heap.size) := ⟨hb.out.size, hbw.out.size⟩
        clear F8
        go_wp2_with (at_builtin; refine wpList_append_own_at _ rfl _ _ 123 rfl w.heap.size 104 i0 (.agg #[.int .i64 0, .slice none 0 0]) 2 32 Tryz.underlying123 hi hz0 hz1 hz2 rfl (by decide) _ xs.length _ rfl HRow.out ⟨w'.heap.size + 1, 0, none⟩ 1 1 [.int .i64 k0, .slice a' n' c'] rfl rfl ?cc1 ?cc2 ?cc3 ?cc4 ?cc5 ?_)
        case cc1 =>
          intro j u hj'
          have := cells_new (w'.alloc (.cells #[.int .i64 k0, .slice a' n' c'] 104)) [.int .i64 k0, .slice a' n' c'] [] 104 j u hj'
          simpa using this
        case cc2 =>
          intro u hu
          simp at hu
          rcases hu with rfl | rfl <;> rfl
        case cc3 => unfold maxLen; omega
        case cc4 => omega
        case cc5 => have := hsw.out; simp; omega
        intro v5 w5 own5 g5 _ hw5
        have HH : Hid (HoldR w5 w.heap.size v5 (xs ++ [((.slice a' n' c', k0, d0, n) : Got)])) := hj.out.snoc (x := (.slice a' n' c', k0, d0, n)) UB.out HX.out hb.out.size own5 g5 (by
          rcases hw5 with q | q
          · exact .inl q
          · exact .inr ⟨_, q, by simp⟩)
        have HB5 : Hid (Below w.heap.size w w5) := (hb.out.trans (UB.out.mono hb.out.size)).grown g5 (by have := hsw.out; simp; omega) (fun j hj' => (HRow.out.lt j hj').1)
        obtain ⟨g', cap', rfl⟩ := ownsRow_succ own5
        clear own5 g5 hw5 p0 p1 UB HRow HX hi hz0 hz1 hz2
        go_wp2_with fail
        refine ⟨⟨xs ++ [(.slice a' n' c', k0, d0, n)], off + n, f - 1, some ⟨g', 0, none⟩, cap', by simp, by simp, ?_, ?_, HB5⟩, ?_⟩
        · have := HN.out
          unfold Hid
          rw [List.map_append]
          exact this
        · have := HH.out
          unfold Hid
          rw [List.length_append]
          exact this
        · simp [intOf]
          omega
    · have he' : (e0 == 0) = false := by simp [he]
      have hend := hs.out.ends (by rw [← HE.out.1]; exact he)
      have HD : Hid (scanOf b = xs.map (·.2)) := hend.1
      have HD2 : Hid (lenOf (scanOf b) = off) := hend.2
      clear hs1 hs2 hs4 hend
      have key : ∀ (w' : World) {o : Obj}, Below wr.heap.size wr w' → Hid (HoldR (w'.alloc o) w.heap.size (.slice ao xs.length co) xs ∧ Below w.heap.size w (w'.alloc o)) := by
        intro w' o hbw
        have h2 : Below wr.heap.size wr (w'.alloc o) := up_al hbw o
        exact ⟨hj.out.up h2, hb.out.trans (h2.mono hb.out.size)⟩
      cases a with
      | none =>
        obtain ⟨hb0, hc0⟩ : b = [] ∧ cap = 0 := by
          rcases HV.out.2 with ⟨e, a2, c2, e2, h2⟩ | ⟨_, b', off', cap', e, _⟩
          · simp at e2
            exact ⟨e, by rw [e2.2.2]; exact h2 e2.1.symm⟩
          · simp at e
        subst hb0 hc0
        have ho0 : off = 0 := by simpa using hs3
        subst ho0
        have G := HG (.slice none 0 0) (by simpa using hv2)
        clear HG hv2
        go_wp2_with fail
        refine G.out.mono ?_
        rintro e w' ⟨a', n', c', rfl, hn', hnb, hbw⟩
        go_wp2_with fail
        go_ret2
        exact ⟨ao, xs.length, co, xs, by (rw [HD2.out] <;> rfl), ⟨HD.out.symm, (key _ hbw.out).out.1⟩, (key _ hbw.out).out.2⟩
      | some x =>
        obtain ⟨bb, o, sp⟩ := x
        by_cases hbn : b = []
        · subst hbn
          have ho0 : off = 0 := by simpa using hs3
          subst ho0
          have nilO : ∀ (x : Addr) (c : Nat), Octs wr (.slice (some x) 0 c) (List.drop 0 []) := fun x c => ⟨by simp, .inl ⟨rfl, _, _, rfl, fun h => by cases h⟩⟩
          by_cases hc0 : cap = 0
          · subst hc0
            have G := HG (.slice (some ⟨bb, o, sp⟩) 0 0) (nilO _ _)
            clear HG hv2
            go_wp2_with fail
            refine G.out.mono ?_
            rintro e w' ⟨a', n', c', rfl, hn', hnb, hbw⟩
            go_wp2_with fail
            go_ret2
            exact ⟨ao, xs.length, co, xs, by (rw [HD2.out] <;> rfl), ⟨HD.out.symm, (key _ hbw.out).out.1⟩, (key _ hbw.out).out.2⟩
          · have G := HG (.slice (some ((⟨bb, o, sp⟩ : Addr).add 0)) 0 cap) (nilO _ _)
            have hc1 : 0 < cap := by omega
            clear HG hv2
            go_wp2_with fail
            refine G.out.mono ?_
            rintro e w' ⟨a', n', c', rfl, hn', hnb, hbw⟩
            go_wp2_with fail
            go_ret2
            exact ⟨ao, xs.length, co, xs, by (rw [HD2.out] <;> rfl), ⟨HD.out.symm, (key _ hbw.out).out.1⟩, (key _ hbw.out).out.2⟩
        · obtain rfl : sp = none := by
            rcases HV.out.2 with ⟨e, _⟩ | ⟨_, b', off', cap', e, _⟩
            · exact absurd e hbn
            · simp at e; exact e.1.2.2
          have hcut := cut_off hv2 hs3 hcap
          by_cases hoff : off < cap
          · have G := HG _ hcut
            have hoff' : (off : Int) < (cap : Int) := by omega
            have hs3' : (off : Int) ≤ (b.length : Int) := by omega
            clear HG hcut hv2
            go_wp2_with fail
            refine G.out.mono ?_
            rintro e w' ⟨a', n', c', rfl, hn', hnb, hbw⟩
            go_wp2_with fail
            go_ret2
            exact ⟨ao, xs.length, co, xs, by (rw [HD2.out] <;> rfl), ⟨HD.out.symm, (key _ hbw.out).out.1⟩, (key _ hbw.out).out.2⟩
          · have hoc : off = cap := by omega
            have hob : b.length = off := by omega
            have G := HG (.slice (some ⟨bb, o, none⟩) 0 0) (by rw [List.drop_eq_nil_iff.2 (by omega)]; exact ⟨by simp, .inl ⟨rfl, _, _, rfl, fun h => by cases h⟩⟩)
            clear HG hcut hv2
            rw [hob] at hs3 ⊢
            subst hoc
            clear hob hoff
            go_wp2_with fail
            refine G.out.mono ?_
            rintro e w' ⟨a', n', c', rfl, hn', hnb, hbw⟩
            go_wp2_with fail
            go_ret2
            exact ⟨ao, xs.length, co, xs, by (rw [HD2.out] <;> rfl), ⟨HD.out.symm, (key _ hbw.out).out.1⟩, (key _ hbw.out).out.2⟩
end Go.Proofs.YtnchjlimkgbfpaaGreatDoor

namespace Go.Proofs.YtnchjlimkgbfpaaGreatDoor
open Go.RowKit
set_option linter.unusedVariables false
set_option linter.unusedSimpArgs false
set_option maxRecDepth 20000
end Go.Proofs.YtnchjlimkgbfpaaGreatDoor

namespace Go.Proofs.YtnchjlimkgbfpaaGreatDoor
open Go.RowKit
set_option linter.unusedVariables false
set_option linter.unusedSimpArgs false
set_option maxRecDepth 20000
def d0 : St := ⟨1048576, [], [], [], 1⟩
def d1 (M F P : List Int) : St := ⟨1048576, [(1, F, F.length), (2, P, P.length)], [(curL, 2), (M, 1)], [(curL, 2), (M, 1)], 3⟩
end Go.Proofs.YtnchjlimkgbfpaaGreatDoor

namespace Go.Proofs.YtnchjlimkgbfpaaGreatDoor
open Go.RowKit
set_option linter.unusedVariables false
set_option linter.unusedSimpArgs false
set_option maxRecDepth 20000
end Go.Proofs.YtnchjlimkgbfpaaGreatDoor

namespace Go.Proofs.YtnchjlimkgbfpaaGreatDoor
open Go.RowKit
set_option linter.unusedVariables false
set_option linter.unusedSimpArgs false
set_option maxRecDepth 20000
def ActO (w : World) (base : Nat) (v : Value) (l : List Ac) : Prop := ∃ m : List ARow, m.map (·.2) = l ∧ OwnR w base 94 4 v (m.map arow) ∧ ∀ y ∈ m, Octs w y.1 y.2.data
theorem ActO.up {w w' : World} {base : Nat} {v : Value} {l : List Ac} (h : ActO w base v l) (hb : Below w.heap.size w w') : ActO w' base v l := by
  obtain ⟨m, h1, h2, h3⟩ := h
  exact ⟨m, h1, h2.up hb, fun y hy => (h3 y hy).up hb⟩
theorem ActO.mono {w : World} {base base' : Nat} {v : Value} {l : List Ac} (h : ActO w base v l) (hb : base' ≤ base) : ActO w base' v l := by
  obtain ⟨m, h1, h2, h3⟩ := h
  exact ⟨m, h1, h2.mono hb, h3⟩
theorem ActO.nil (w : World) (base : Nat) : ActO w base (.slice none 0 0) [] := ⟨[], rfl, OwnR.nil _ _ _ _, by simp⟩
theorem ActO.len {w : World} {base : Nat} {v : Value} {l : List Ac} (h : ActO w base v l) : ∃ a c, v = .slice a l.length c := by
  obtain ⟨m, h1, h2, h3⟩ := h
  obtain ⟨a, c, e, _, _⟩ := (Rws.own h2).len
  rw [List.length_map] at e
  exact ⟨a, c, by rw [e, ← h1, List.length_map]⟩
theorem cur_oct : ∀ y ∈ curL, 0 ≤ y ∧ y ≤ 255 := by unfold curL; intro y hy; simp at hy; omega
theorem nameN_octO {id : Int} (h : idOk id = true) : nameN 109 id = (109 :: digs id.toNat, 0) ∧ (∀ y ∈ (109 :: digs id.toNat : List Int), 0 ≤ y ∧ y ≤ 255) ∧ (109 :: digs id.toNat : List Int).length ≤ 11 := by
  have h3 : 1 ≤ id ∧ id ≤ 2147483647 := by simpa [idOk] using h
  have hl := digs_len 10 id.toNat (by omega)
  refine ⟨by unfold nameN; rw [h]; rfl, fun y hy => ?_, by simp only [List.length_cons]; omega⟩
  rcases List.mem_cons.1 hy with rfl | hy
  · omega
  · exact digs_oct _ y hy
end Go.Proofs.YtnchjlimkgbfpaaGreatDoor
