/- The texts OReg, T5, in this order. -/
import Derived.Test.YtnchjlimkgbfpaaGreatDoorZ36
import Derived.Test.YtnchjlimkgbfpaaGreatDoorZ13
import Derived.Test.YtnchjlimkgbfpaaGreatDoorZ12
import Derived.Test.YtnchjlimkgbfpaaGreatDoorZ26

namespace Go.Proofs.YtnchjlimkgbfpaaGreatDoor
open Go.RowKit
set_option linter.unusedVariables false
set_option linter.unusedSimpArgs false
set_option maxRecDepth 20000
theorem ready_after {md : Region.Mode} {ops : Array Oper} {l : Array Bool} {j : Nat} {o : Oper} (h : j ∈ Region.ready md ops l) (ho : ops[j]? = some o) (k : Nat) (hk : (o.after.toList.any fun e => e.on == k && Region.binds md e) = true) : l.getD k false = true := by
  obtain ⟨_, o', ho', hall⟩ := mem_ready.1 h
  rw [ho] at ho'
  injection ho' with ho'
  subst ho'
  obtain ⟨e, he, hb⟩ := List.any_eq_true.1 hk
  rw [Bool.and_eq_true, beq_iff_eq] at hb
  rw [← hb.1]
  exact hall e (by simpa using he) hb.2
theorem ready_lt {md : Region.Mode} {ops : Array Oper} {l : Array Bool} {j : Nat} (h : j ∈ Region.ready md ops l) : j < ops.size := by
  obtain ⟨_, o', ho', _⟩ := mem_ready.1 h
  exact (Array.getElem?_eq_some_iff.1 ho').1
theorem ready_in {md : Region.Mode} {ops : Array Oper} {l : Array Bool} {j : Nat} {o : Oper} (hs : j < l.size) (h : l.getD j false = false) (ho : ops[j]? = some o) (ha : ∀ e ∈ o.after.toList, l.getD e.on false = true) : j ∈ Region.ready md ops l := by
  refine mem_ready.2 ⟨?_, o, ho, fun e he _ => ha e (by simpa using he)⟩
  simp [Array.getD, hs] at h ⊢
  exact h
theorem OwnV.farT {w w' : World} {base N : Nat} {v : Value} {s : St} {cs : Array Value} {t : TypeId} (h : OwnV w base v s) (hg : w.grownBy w' (some N)) (hb : w.heap[N]? = some (.cells cs t)) (h1 : (110 : TypeId) ≠ t) (h2 : (146 : TypeId) ≠ t) (h3 : (5 : TypeId) ≠ t) : OwnV w' base v s := by
  obtain ⟨vf, vn, vs, m, ev, hm, of, on, os, hap, hi1, hi2⟩ := h
  exact ⟨vf, vn, vs, m, ev, hm, of.far hg (own_blk_ne of.1.2 hb h1) (fun y hy => own_blk_ne (of.2.1 y hy).1 hb h3), on.far hg (own_blk_ne on.2.2 hb h2), os.far hg (own_blk_ne os.2.2 hb h2), hap, hi1, hi2⟩
def OwnW (w : World) (base : Nat) (v : Value) (ts : List Me) (seq next : Int) : Prop := ∃ a n c, v = .agg #[.slice a n c, .int .i64 seq, .int .i64 next] ∧ VerO w base a n c ts
theorem OwnW.up {w w' : World} {base : Nat} {v : Value} {ts : List Me} {seq next : Int} (h : OwnW w base v ts seq next) (hb : Below w.heap.size w w') : OwnW w' base v ts seq next := by
  obtain ⟨a, n, c, e, ho⟩ := h
  exact ⟨a, n, c, e, ho.up hb⟩
theorem OwnW.farT {w w' : World} {base N : Nat} {v : Value} {ts : List Me} {seq next : Int} {cs : Array Value} {t : TypeId} (h : OwnW w base v ts seq next) (hg : w.grownBy w' (some N)) (hb : w.heap[N]? = some (.cells cs t)) (h1 : (148 : TypeId) ≠ t) : OwnW w' base v ts seq next := by
  obtain ⟨a, n, c, e, ho⟩ := h
  exact ⟨a, n, c, e, OwnR.far ho hg (own_blk_ne ho.2 hb h1)⟩
def OwnE (w : World) (base : Nat) (v : Value) (drop : List Int) (add : List Me) (sq2 nx2 : Int) : Prop := ∃ a n c a' n' c', v = .agg #[.slice a n c, .slice a' n' c', .int .i64 sq2, .int .i64 nx2] ∧ OwnR w base 3 1 (.slice a n c) (drop.map irow) ∧ VerO w base a' n' c' add
theorem OwnE.up {w w' : World} {base : Nat} {v : Value} {drop : List Int} {add : List Me} {sq2 nx2 : Int} (h : OwnE w base v drop add sq2 nx2) (hb : Below w.heap.size w w') : OwnE w' base v drop add sq2 nx2 := by
  obtain ⟨a, n, c, a', n', c', e, ho, ho'⟩ := h
  exact ⟨a, n, c, a', n', c', e, ho.up hb, ho'.up hb⟩
theorem OwnE.farT {w w' : World} {base N : Nat} {v : Value} {drop : List Int} {add : List Me} {sq2 nx2 : Int} {cs : Array Value} {t : TypeId} (h : OwnE w base v drop add sq2 nx2) (hg : w.grownBy w' (some N)) (hb : w.heap[N]? = some (.cells cs t)) (h1 : (148 : TypeId) ≠ t) (h2 : (3 : TypeId) ≠ t) : OwnE w' base v drop add sq2 nx2 := by
  obtain ⟨a, n, c, a', n', c', e, ho, ho'⟩ := h
  exact ⟨a, n, c, a', n', c', e, ho.far hg (own_blk_ne ho.2 hb h2), OwnR.far ho' hg (own_blk_ne ho'.2 hb h1)⟩
def BoxP (w : World) (base : Nat) (p : Value) (zs : Array Value) (t : TypeId) : Prop := ∃ N, p = .pointer (some ⟨N, 0, none⟩) ∧ base ≤ N ∧ w.heap[N]? = some (.cells zs t)
theorem BoxP.up {w w' : World} {base : Nat} {p : Value} {zs : Array Value} {t : TypeId} (h : BoxP w base p zs t) (hb : Below w.heap.size w w') : BoxP w' base p zs t := by
  obtain ⟨N, e, h1, h2⟩ := h
  exact ⟨N, e, h1, blk_up h2 hb⟩
theorem BoxP.farT {w w' : World} {base M : Nat} {p : Value} {zs cs : Array Value} {t u : TypeId} (h : BoxP w base p zs t) (hg : w.grownBy w' (some M)) (hb : w.heap[M]? = some (.cells cs u)) (hne : t ≠ u) : BoxP w' base p zs t := by
  obtain ⟨N, e, h1, h2⟩ := h
  refine ⟨N, e, h1, blk_grown h2 hg (fun q => ?_)⟩
  injection q with q
  subst q
  rw [h2] at hb
  simp at hb
  exact hne hb.2
def zeroA : Array Value := #[.int .i64 0, .slice none 0 0, .slice none 0 0, .slice none 0 0, .int .i64 0]
def zeroB : Array Value := #[.slice none 0 0, .int .i64 0, .int .i64 0]
def zeroC : Array Value := #[.slice none 0 0, .slice none 0 0, .int .i64 0, .int .i64 0]
def Gd (l : Array Bool) : Prop := l.getD 1 false = true ∧ l.getD 3 false = true ∧ l.getD 5 false = true ∧ l.getD 6 false = true ∧ l.getD 7 false = true ∧ l.getD 8 false = true
def actA (t0 t1 t2 t3 t4 t5 t7 p9 p10 p11 v20 v21 v22 v23 v24 v25 : Value) : Act := { tmps := #[t0, t1, t2, t3, t4, t5, undef, t7, .bool false, p9, p10, p11, undef, undef, undef, undef, undef, undef, undef, undef, v20, v21, v22, v23, v24, v25, undef, undef, undef, undef, undef, undef, undef, undef, undef, undef, undef, undef, undef, undef, undef, undef, undef, undef, undef, undef, undef, undef, undef, undef, undef, undef, undef, undef, undef, undef, undef, undef, undef, undef, undef, undef, undef, undef, undef, undef, undef, undef, undef, undef, undef, undef, undef, undef, undef, undef, undef, undef, undef, undef, undef, undef, undef, undef, undef, undef, undef], defers := [] }
structure JF (s : St) (ts : List Me) (seq next : Int) (drop : List Int) (add : List Me) (sq2 nx2 : Int) (SV VV EV : Value) (w1 : World) (l : Array Bool) (w : World) (p9 p10 p11 v20 v21 v22 v23 v24 v25 : Value) (zA zB zC : Array Value) : Prop where
  up : Below w1.heap.size w1 w
  f0 : l.getD 0 false = true → v20 = SV
  f2 : l.getD 2 false = true → v22 = VV
  f4 : l.getD 4 false = true → v24 = EV
  f1 : l.getD 1 false = true → OwnV w w1.heap.size v21 s
  f3 : l.getD 3 false = true → OwnW w w1.heap.size v23 ts seq next
  f5 : l.getD 5 false = true → OwnE w w1.heap.size v25 drop add sq2 nx2
  f6 : l.getD 6 false = true → BoxP w w1.heap.size p9 zA 35
  f7 : l.getD 7 false = true → BoxP w w1.heap.size p10 zB 39
  f8 : l.getD 8 false = true → BoxP w w1.heap.size p11 zC 42
  z9 : l.getD 9 false = false → zA = zeroA
  z10 : l.getD 10 false = false → zB = zeroB
  z11 : l.getD 11 false = false → zC = zeroC
  e9 : l.getD 9 false = true → v21 = .agg zA
  e10 : l.getD 10 false = true → v23 = .agg zB
  e11 : l.getD 11 false = true → v25 = .agg zC
  k5 : l.getD 5 false = true → l.getD 3 false = true
  k3 : l.getD 3 false = true → l.getD 1 false = true
  g9 : l.getD 9 false = true → Gd l
  g10 : l.getD 10 false = true → Gd l
  g11 : l.getD 11 false = true → Gd l
theorem JF.grow {s : St} {ts : List Me} {seq next : Int} {drop : List Int} {add : List Me} {sq2 nx2 : Int} {SV VV EV : Value} {w1 : World} {l : Array Bool} {w : World} {p9 p10 p11 v20 v21 v22 v23 v24 v25 : Value} {zA zB zC : Array Value} {w' : World} (h : JF s ts seq next drop add sq2 nx2 SV VV EV w1 l w p9 p10 p11 v20 v21 v22 v23 v24 v25 zA zB zC) (hb : Below w.heap.size w w') : JF s ts seq next drop add sq2 nx2 SV VV EV w1 l w' p9 p10 p11 v20 v21 v22 v23 v24 v25 zA zB zC :=
  ⟨up_trans h.up hb, h.f0, h.f2, h.f4, fun q => (h.f1 q).up hb, fun q => (h.f3 q).up hb, fun q => (h.f5 q).up hb, fun q => (h.f6 q).up hb, fun q => (h.f7 q).up hb, fun q => (h.f8 q).up hb, h.z9, h.z10, h.z11, h.e9, h.e10, h.e11, h.k5, h.k3, h.g9, h.g10, h.g11⟩
theorem gd_set {l : Array Bool} {i : Nat} (h : Gd l) : Gd (l.setIfInBounds i true) := by
  have k : ∀ j, l.getD j false = true → (l.setIfInBounds i true).getD j false = true := by
    intro j hj
    by_cases e : i = j
    · subst e
      rcases Nat.lt_or_ge i l.size with q | q
      · exact got_self q
      · simp [Array.getD, show ¬ i < l.size by omega] at hj
    · rw [got_ne e]; exact hj
  exact ⟨k _ h.1, k _ h.2.1, k _ h.2.2.1, k _ h.2.2.2.1, k _ h.2.2.2.2.1, k _ h.2.2.2.2.2⟩
theorem JF.put0 {s : St} {ts : List Me} {seq next : Int} {drop : List Int} {add : List Me} {sq2 nx2 : Int} {SV VV EV : Value} {w1 : World} {l : Array Bool} {w : World} {p9 p10 p11 v20 v21 v22 v23 v24 v25 : Value} {zA zB zC : Array Value} (h : JF s ts seq next drop add sq2 nx2 SV VV EV w1 l w p9 p10 p11 v20 v21 v22 v23 v24 v25 zA zB zC) (hs : l.size = 12) (hn : l.getD 0 false = false)  : JF s ts seq next drop add sq2 nx2 SV VV EV w1 (l.setIfInBounds 0 true) w p9 p10 p11 SV v21 v22 v23 v24 v25 zA zB zC :=
  ⟨h.up, (fun _ => rfl), (fun q => h.f2 (by rw [got_ne (by decide)] at q; exact q)), (fun q => h.f4 (by rw [got_ne (by decide)] at q; exact q)), (fun q => h.f1 (by rw [got_ne (by decide)] at q; exact q)), (fun q => h.f3 (by rw [got_ne (by decide)] at q; exact q)), (fun q => h.f5 (by rw [got_ne (by decide)] at q; exact q)), (fun q => h.f6 (by rw [got_ne (by decide)] at q; exact q)), (fun q => h.f7 (by rw [got_ne (by decide)] at q; exact q)), (fun q => h.f8 (by rw [got_ne (by decide)] at q; exact q)), (fun q => h.z9 (by rw [got_ne (by decide)] at q; exact q)), (fun q => h.z10 (by rw [got_ne (by decide)] at q; exact q)), (fun q => h.z11 (by rw [got_ne (by decide)] at q; exact q)), (fun q => h.e9 (by rw [got_ne (by decide)] at q; exact q)), (fun q => h.e10 (by rw [got_ne (by decide)] at q; exact q)), (fun q => h.e11 (by rw [got_ne (by decide)] at q; exact q)), (fun q => by rw [got_ne (by decide)] at q ⊢; exact h.k5 q), (fun q => by rw [got_ne (by decide)] at q ⊢; exact h.k3 q), (fun q => gd_set (h.g9 (by rw [got_ne (by decide)] at q; exact q))), (fun q => gd_set (h.g10 (by rw [got_ne (by decide)] at q; exact q))), (fun q => gd_set (h.g11 (by rw [got_ne (by decide)] at q; exact q)))⟩
theorem JF.put2 {s : St} {ts : List Me} {seq next : Int} {drop : List Int} {add : List Me} {sq2 nx2 : Int} {SV VV EV : Value} {w1 : World} {l : Array Bool} {w : World} {p9 p10 p11 v20 v21 v22 v23 v24 v25 : Value} {zA zB zC : Array Value} (h : JF s ts seq next drop add sq2 nx2 SV VV EV w1 l w p9 p10 p11 v20 v21 v22 v23 v24 v25 zA zB zC) (hs : l.size = 12) (hn : l.getD 2 false = false)  : JF s ts seq next drop add sq2 nx2 SV VV EV w1 (l.setIfInBounds 2 true) w p9 p10 p11 v20 v21 VV v23 v24 v25 zA zB zC :=
  ⟨h.up, (fun q => h.f0 (by rw [got_ne (by decide)] at q; exact q)), (fun _ => rfl), (fun q => h.f4 (by rw [got_ne (by decide)] at q; exact q)), (fun q => h.f1 (by rw [got_ne (by decide)] at q; exact q)), (fun q => h.f3 (by rw [got_ne (by decide)] at q; exact q)), (fun q => h.f5 (by rw [got_ne (by decide)] at q; exact q)), (fun q => h.f6 (by rw [got_ne (by decide)] at q; exact q)), (fun q => h.f7 (by rw [got_ne (by decide)] at q; exact q)), (fun q => h.f8 (by rw [got_ne (by decide)] at q; exact q)), (fun q => h.z9 (by rw [got_ne (by decide)] at q; exact q)), (fun q => h.z10 (by rw [got_ne (by decide)] at q; exact q)), (fun q => h.z11 (by rw [got_ne (by decide)] at q; exact q)), (fun q => h.e9 (by rw [got_ne (by decide)] at q; exact q)), (fun q => h.e10 (by rw [got_ne (by decide)] at q; exact q)), (fun q => h.e11 (by rw [got_ne (by decide)] at q; exact q)), (fun q => by rw [got_ne (by decide)] at q ⊢; exact h.k5 q), (fun q => by rw [got_ne (by decide)] at q ⊢; exact h.k3 q), (fun q => gd_set (h.g9 (by rw [got_ne (by decide)] at q; exact q))), (fun q => gd_set (h.g10 (by rw [got_ne (by decide)] at q; exact q))), (fun q => gd_set (h.g11 (by rw [got_ne (by decide)] at q; exact q)))⟩
theorem JF.put4 {s : St} {ts : List Me} {seq next : Int} {drop : List Int} {add : List Me} {sq2 nx2 : Int} {SV VV EV : Value} {w1 : World} {l : Array Bool} {w : World} {p9 p10 p11 v20 v21 v22 v23 v24 v25 : Value} {zA zB zC : Array Value} (h : JF s ts seq next drop add sq2 nx2 SV VV EV w1 l w p9 p10 p11 v20 v21 v22 v23 v24 v25 zA zB zC) (hs : l.size = 12) (hn : l.getD 4 false = false)  : JF s ts seq next drop add sq2 nx2 SV VV EV w1 (l.setIfInBounds 4 true) w p9 p10 p11 v20 v21 v22 v23 EV v25 zA zB zC :=
  ⟨h.up, (fun q => h.f0 (by rw [got_ne (by decide)] at q; exact q)), (fun q => h.f2 (by rw [got_ne (by decide)] at q; exact q)), (fun _ => rfl), (fun q => h.f1 (by rw [got_ne (by decide)] at q; exact q)), (fun q => h.f3 (by rw [got_ne (by decide)] at q; exact q)), (fun q => h.f5 (by rw [got_ne (by decide)] at q; exact q)), (fun q => h.f6 (by rw [got_ne (by decide)] at q; exact q)), (fun q => h.f7 (by rw [got_ne (by decide)] at q; exact q)), (fun q => h.f8 (by rw [got_ne (by decide)] at q; exact q)), (fun q => h.z9 (by rw [got_ne (by decide)] at q; exact q)), (fun q => h.z10 (by rw [got_ne (by decide)] at q; exact q)), (fun q => h.z11 (by rw [got_ne (by decide)] at q; exact q)), (fun q => h.e9 (by rw [got_ne (by decide)] at q; exact q)), (fun q => h.e10 (by rw [got_ne (by decide)] at q; exact q)), (fun q => h.e11 (by rw [got_ne (by decide)] at q; exact q)), (fun q => by rw [got_ne (by decide)] at q ⊢; exact h.k5 q), (fun q => by rw [got_ne (by decide)] at q ⊢; exact h.k3 q), (fun q => gd_set (h.g9 (by rw [got_ne (by decide)] at q; exact q))), (fun q => gd_set (h.g10 (by rw [got_ne (by decide)] at q; exact q))), (fun q => gd_set (h.g11 (by rw [got_ne (by decide)] at q; exact q)))⟩
theorem JF.put1 {s : St} {ts : List Me} {seq next : Int} {drop : List Int} {add : List Me} {sq2 nx2 : Int} {SV VV EV : Value} {w1 : World} {l : Array Bool} {w : World} {p9 p10 p11 v20 v21 v22 v23 v24 v25 : Value} {zA zB zC : Array Value} (h : JF s ts seq next drop add sq2 nx2 SV VV EV w1 l w p9 p10 p11 v20 v21 v22 v23 v24 v25 zA zB zC) (hs : l.size = 12) (hn : l.getD 1 false = false) {v' : Value} (hv : OwnV w w1.heap.size v' s) : JF s ts seq next drop add sq2 nx2 SV VV EV w1 (l.setIfInBounds 1 true) w p9 p10 p11 v20 v' v22 v23 v24 v25 zA zB zC :=
  ⟨h.up, (fun q => h.f0 (by rw [got_ne (by decide)] at q; exact q)), (fun q => h.f2 (by rw [got_ne (by decide)] at q; exact q)), (fun q => h.f4 (by rw [got_ne (by decide)] at q; exact q)), (fun _ => hv), (fun q => h.f3 (by rw [got_ne (by decide)] at q; exact q)), (fun q => h.f5 (by rw [got_ne (by decide)] at q; exact q)), (fun q => h.f6 (by rw [got_ne (by decide)] at q; exact q)), (fun q => h.f7 (by rw [got_ne (by decide)] at q; exact q)), (fun q => h.f8 (by rw [got_ne (by decide)] at q; exact q)), (fun q => h.z9 (by rw [got_ne (by decide)] at q; exact q)), (fun q => h.z10 (by rw [got_ne (by decide)] at q; exact q)), (fun q => h.z11 (by rw [got_ne (by decide)] at q; exact q)), (fun q => absurd (h.g9 (by rw [got_ne (by decide)] at q; exact q)).1 (by rw [hn]; decide)), (fun q => absurd (h.g10 (by rw [got_ne (by decide)] at q; exact q)).1 (by rw [hn]; decide)), (fun q => absurd (h.g11 (by rw [got_ne (by decide)] at q; exact q)).1 (by rw [hn]; decide)), (fun q => by rw [got_ne (by decide)] at q ⊢; exact h.k5 q), (fun _ => got_self (by omega)), (fun q => absurd (h.g9 (by rw [got_ne (by decide)] at q; exact q)).1 (by rw [hn]; decide)), (fun q => absurd (h.g10 (by rw [got_ne (by decide)] at q; exact q)).1 (by rw [hn]; decide)), (fun q => absurd (h.g11 (by rw [got_ne (by decide)] at q; exact q)).1 (by rw [hn]; decide))⟩
theorem JF.put3 {s : St} {ts : List Me} {seq next : Int} {drop : List Int} {add : List Me} {sq2 nx2 : Int} {SV VV EV : Value} {w1 : World} {l : Array Bool} {w : World} {p9 p10 p11 v20 v21 v22 v23 v24 v25 : Value} {zA zB zC : Array Value} (h : JF s ts seq next drop add sq2 nx2 SV VV EV w1 l w p9 p10 p11 v20 v21 v22 v23 v24 v25 zA zB zC) (hs : l.size = 12) (hn : l.getD 3 false = false) (hk : l.getD 1 false = true) {v' : Value} (hv : OwnW w w1.heap.size v' ts seq next) : JF s ts seq next drop add sq2 nx2 SV VV EV w1 (l.setIfInBounds 3 true) w p9 p10 p11 v20 v21 v22 v' v24 v25 zA zB zC :=
  ⟨h.up, (fun q => h.f0 (by rw [got_ne (by decide)] at q; exact q)), (fun q => h.f2 (by rw [got_ne (by decide)] at q; exact q)), (fun q => h.f4 (by rw [got_ne (by decide)] at q; exact q)), (fun q => h.f1 (by rw [got_ne (by decide)] at q; exact q)), (fun _ => hv), (fun q => h.f5 (by rw [got_ne (by decide)] at q; exact q)), (fun q => h.f6 (by rw [got_ne (by decide)] at q; exact q)), (fun q => h.f7 (by rw [got_ne (by decide)] at q; exact q)), (fun q => h.f8 (by rw [got_ne (by decide)] at q; exact q)), (fun q => h.z9 (by rw [got_ne (by decide)] at q; exact q)), (fun q => h.z10 (by rw [got_ne (by decide)] at q; exact q)), (fun q => h.z11 (by rw [got_ne (by decide)] at q; exact q)), (fun q => absurd (h.g9 (by rw [got_ne (by decide)] at q; exact q)).2.1 (by rw [hn]; decide)), (fun q => absurd (h.g10 (by rw [got_ne (by decide)] at q; exact q)).2.1 (by rw [hn]; decide)), (fun q => absurd (h.g11 (by rw [got_ne (by decide)] at q; exact q)).2.1 (by rw [hn]; decide)), (fun _ => got_self (by omega)), (fun _ => by rw [got_ne (by decide)]; exact hk), (fun q => absurd (h.g9 (by rw [got_ne (by decide)] at q; exact q)).2.1 (by rw [hn]; decide)), (fun q => absurd (h.g10 (by rw [got_ne (by decide)] at q; exact q)).2.1 (by rw [hn]; decide)), (fun q => absurd (h.g11 (by rw [got_ne (by decide)] at q; exact q)).2.1 (by rw [hn]; decide))⟩
theorem JF.put5 {s : St} {ts : List Me} {seq next : Int} {drop : List Int} {add : List Me} {sq2 nx2 : Int} {SV VV EV : Value} {w1 : World} {l : Array Bool} {w : World} {p9 p10 p11 v20 v21 v22 v23 v24 v25 : Value} {zA zB zC : Array Value} (h : JF s ts seq next drop add sq2 nx2 SV VV EV w1 l w p9 p10 p11 v20 v21 v22 v23 v24 v25 zA zB zC) (hs : l.size = 12) (hn : l.getD 5 false = false) (hk : l.getD 3 false = true) {v' : Value} (hv : OwnE w w1.heap.size v' drop add sq2 nx2) : JF s ts seq next drop add sq2 nx2 SV VV EV w1 (l.setIfInBounds 5 true) w p9 p10 p11 v20 v21 v22 v23 v24 v' zA zB zC :=
  ⟨h.up, (fun q => h.f0 (by rw [got_ne (by decide)] at q; exact q)), (fun q => h.f2 (by rw [got_ne (by decide)] at q; exact q)), (fun q => h.f4 (by rw [got_ne (by decide)] at q; exact q)), (fun q => h.f1 (by rw [got_ne (by decide)] at q; exact q)), (fun q => h.f3 (by rw [got_ne (by decide)] at q; exact q)), (fun _ => hv), (fun q => h.f6 (by rw [got_ne (by decide)] at q; exact q)), (fun q => h.f7 (by rw [got_ne (by decide)] at q; exact q)), (fun q => h.f8 (by rw [got_ne (by decide)] at q; exact q)), (fun q => h.z9 (by rw [got_ne (by decide)] at q; exact q)), (fun q => h.z10 (by rw [got_ne (by decide)] at q; exact q)), (fun q => h.z11 (by rw [got_ne (by decide)] at q; exact q)), (fun q => absurd (h.g9 (by rw [got_ne (by decide)] at q; exact q)).2.2.1 (by rw [hn]; decide)), (fun q => absurd (h.g10 (by rw [got_ne (by decide)] at q; exact q)).2.2.1 (by rw [hn]; decide)), (fun q => absurd (h.g11 (by rw [got_ne (by decide)] at q; exact q)).2.2.1 (by rw [hn]; decide)), (fun _ => by rw [got_ne (by decide)]; exact hk), (fun q => by rw [got_ne (by decide)] at q ⊢; exact h.k3 q), (fun q => absurd (h.g9 (by rw [got_ne (by decide)] at q; exact q)).2.2.1 (by rw [hn]; decide)), (fun q => absurd (h.g10 (by rw [got_ne (by decide)] at q; exact q)).2.2.1 (by rw [hn]; decide)), (fun q => absurd (h.g11 (by rw [got_ne (by decide)] at q; exact q)).2.2.1 (by rw [hn]; decide))⟩
theorem JF.put6 {s : St} {ts : List Me} {seq next : Int} {drop : List Int} {add : List Me} {sq2 nx2 : Int} {SV VV EV : Value} {w1 : World} {l : Array Bool} {w : World} {p9 p10 p11 v20 v21 v22 v23 v24 v25 : Value} {zA zB zC : Array Value} (h : JF s ts seq next drop add sq2 nx2 SV VV EV w1 l w p9 p10 p11 v20 v21 v22 v23 v24 v25 zA zB zC) (hs : l.size = 12) (hn : l.getD 6 false = false) {p' : Value} (hv : BoxP w w1.heap.size p' zeroA 35) : JF s ts seq next drop add sq2 nx2 SV VV EV w1 (l.setIfInBounds 6 true) w p' p10 p11 v20 v21 v22 v23 v24 v25 zeroA zB zC :=
  ⟨h.up, (fun q => h.f0 (by rw [got_ne (by decide)] at q; exact q)), (fun q => h.f2 (by rw [got_ne (by decide)] at q; exact q)), (fun q => h.f4 (by rw [got_ne (by decide)] at q; exact q)), (fun q => h.f1 (by rw [got_ne (by decide)] at q; exact q)), (fun q => h.f3 (by rw [got_ne (by decide)] at q; exact q)), (fun q => h.f5 (by rw [got_ne (by decide)] at q; exact q)), (fun _ => hv), (fun q => h.f7 (by rw [got_ne (by decide)] at q; exact q)), (fun q => h.f8 (by rw [got_ne (by decide)] at q; exact q)), (fun _ => rfl), (fun q => h.z10 (by rw [got_ne (by decide)] at q; exact q)), (fun q => h.z11 (by rw [got_ne (by decide)] at q; exact q)), (fun q => absurd (h.g9 (by rw [got_ne (by decide)] at q; exact q)).2.2.2.1 (by rw [hn]; decide)), (fun q => absurd (h.g10 (by rw [got_ne (by decide)] at q; exact q)).2.2.2.1 (by rw [hn]; decide)), (fun q => absurd (h.g11 (by rw [got_ne (by decide)] at q; exact q)).2.2.2.1 (by rw [hn]; decide)), (fun q => by rw [got_ne (by decide)] at q ⊢; exact h.k5 q), (fun q => by rw [got_ne (by decide)] at q ⊢; exact h.k3 q), (fun q => absurd (h.g9 (by rw [got_ne (by decide)] at q; exact q)).2.2.2.1 (by rw [hn]; decide)), (fun q => absurd (h.g10 (by rw [got_ne (by decide)] at q; exact q)).2.2.2.1 (by rw [hn]; decide)), (fun q => absurd (h.g11 (by rw [got_ne (by decide)] at q; exact q)).2.2.2.1 (by rw [hn]; decide))⟩
theorem JF.put7 {s : St} {ts : List Me} {seq next : Int} {drop : List Int} {add : List Me} {sq2 nx2 : Int} {SV VV EV : Value} {w1 : World} {l : Array Bool} {w : World} {p9 p10 p11 v20 v21 v22 v23 v24 v25 : Value} {zA zB zC : Array Value} (h : JF s ts seq next drop add sq2 nx2 SV VV EV w1 l w p9 p10 p11 v20 v21 v22 v23 v24 v25 zA zB zC) (hs : l.size = 12) (hn : l.getD 7 false = false) {p' : Value} (hv : BoxP w w1.heap.size p' zeroB 39) : JF s ts seq next drop add sq2 nx2 SV VV EV w1 (l.setIfInBounds 7 true) w p9 p' p11 v20 v21 v22 v23 v24 v25 zA zeroB zC :=
  ⟨h.up, (fun q => h.f0 (by rw [got_ne (by decide)] at q; exact q)), (fun q => h.f2 (by rw [got_ne (by decide)] at q; exact q)), (fun q => h.f4 (by rw [got_ne (by decide)] at q; exact q)), (fun q => h.f1 (by rw [got_ne (by decide)] at q; exact q)), (fun q => h.f3 (by rw [got_ne (by decide)] at q; exact q)), (fun q => h.f5 (by rw [got_ne (by decide)] at q; exact q)), (fun q => h.f6 (by rw [got_ne (by decide)] at q; exact q)), (fun _ => hv), (fun q => h.f8 (by rw [got_ne (by decide)] at q; exact q)), (fun q => h.z9 (by rw [got_ne (by decide)] at q; exact q)), (fun _ => rfl), (fun q => h.z11 (by rw [got_ne (by decide)] at q; exact q)), (fun q => absurd (h.g9 (by rw [got_ne (by decide)] at q; exact q)).2.2.2.2.1 (by rw [hn]; decide)), (fun q => absurd (h.g10 (by rw [got_ne (by decide)] at q; exact q)).2.2.2.2.1 (by rw [hn]; decide)), (fun q => absurd (h.g11 (by rw [got_ne (by decide)] at q; exact q)).2.2.2.2.1 (by rw [hn]; decide)), (fun q => by rw [got_ne (by decide)] at q ⊢; exact h.k5 q), (fun q => by rw [got_ne (by decide)] at q ⊢; exact h.k3 q), (fun q => absurd (h.g9 (by rw [got_ne (by decide)] at q; exact q)).2.2.2.2.1 (by rw [hn]; decide)), (fun q => absurd (h.g10 (by rw [got_ne (by decide)] at q; exact q)).2.2.2.2.1 (by rw [hn]; decide)), (fun q => absurd (h.g11 (by rw [got_ne (by decide)] at q; exact q)).2.2.2.2.1 (by rw [hn]; decide))⟩
theorem JF.put8 {s : St} {ts : List Me} {seq next : Int} {drop : List Int} {add : List Me} {sq2 nx2 : Int} {SV VV EV : Value} {w1 : World} {l : Array Bool} {w : World} {p9 p10 p11 v20 v21 v22 v23 v24 v25 : Value} {zA zB zC : Array Value} (h : JF s ts seq next drop add sq2 nx2 SV VV EV w1 l w p9 p10 p11 v20 v21 v22 v23 v24 v25 zA zB zC) (hs : l.size = 12) (hn : l.getD 8 false = false) {p' : Value} (hv : BoxP w w1.heap.size p' zeroC 42) : JF s ts seq next drop add sq2 nx2 SV VV EV w1 (l.setIfInBounds 8 true) w p9 p10 p' v20 v21 v22 v23 v24 v25 zA zB zeroC :=
  ⟨h.up, (fun q => h.f0 (by rw [got_ne (by decide)] at q; exact q)), (fun q => h.f2 (by rw [got_ne (by decide)] at q; exact q)), (fun q => h.f4 (by rw [got_ne (by decide)] at q; exact q)), (fun q => h.f1 (by rw [got_ne (by decide)] at q; exact q)), (fun q => h.f3 (by rw [got_ne (by decide)] at q; exact q)), (fun q => h.f5 (by rw [got_ne (by decide)] at q; exact q)), (fun q => h.f6 (by rw [got_ne (by decide)] at q; exact q)), (fun q => h.f7 (by rw [got_ne (by decide)] at q; exact q)), (fun _ => hv), (fun q => h.z9 (by rw [got_ne (by decide)] at q; exact q)), (fun q => h.z10 (by rw [got_ne (by decide)] at q; exact q)), (fun _ => rfl), (fun q => absurd (h.g9 (by rw [got_ne (by decide)] at q; exact q)).2.2.2.2.2 (by rw [hn]; decide)), (fun q => absurd (h.g10 (by rw [got_ne (by decide)] at q; exact q)).2.2.2.2.2 (by rw [hn]; decide)), (fun q => absurd (h.g11 (by rw [got_ne (by decide)] at q; exact q)).2.2.2.2.2 (by rw [hn]; decide)), (fun q => by rw [got_ne (by decide)] at q ⊢; exact h.k5 q), (fun q => by rw [got_ne (by decide)] at q ⊢; exact h.k3 q), (fun q => absurd (h.g9 (by rw [got_ne (by decide)] at q; exact q)).2.2.2.2.2 (by rw [hn]; decide)), (fun q => absurd (h.g10 (by rw [got_ne (by decide)] at q; exact q)).2.2.2.2.2 (by rw [hn]; decide)), (fun q => absurd (h.g11 (by rw [got_ne (by decide)] at q; exact q)).2.2.2.2.2 (by rw [hn]; decide))⟩
theorem JF.store9 {s : St} {ts : List Me} {seq next : Int} {drop : List Int} {add : List Me} {sq2 nx2 : Int} {SV VV EV : Value} {w1 : World} {l : Array Bool} {w : World} {p9 p10 p11 v20 v21 v22 v23 v24 v25 : Value} {zA zB zC : Array Value} (h : JF s ts seq next drop add sq2 nx2 SV VV EV w1 l w p9 p10 p11 v20 v21 v22 v23 v24 v25 zA zB zC) (hs : l.size = 12) (hG : Gd l) {w' : World} {N : Nat} {cs z' : Array Value} (hp : p9 = .pointer (some ⟨N, 0, none⟩)) (hN : w1.heap.size ≤ N) (hb : w.heap[N]? = some (.cells cs 35)) (hg : w.grownBy w' (some N)) (hb' : w'.heap[N]? = some (.cells z' 35)) (hv : v21 = .agg z') : JF s ts seq next drop add sq2 nx2 SV VV EV w1 (l.setIfInBounds 9 true) w' p9 p10 p11 v20 v21 v22 v23 v24 v25 z' zB zC :=
  ⟨(h.up.trans (below_grown hg h.up.size (fun k hk => by injection hk with hk; omega))), (fun q => h.f0 (by rw [got_ne (by decide)] at q; exact q)), (fun q => h.f2 (by rw [got_ne (by decide)] at q; exact q)), (fun q => h.f4 (by rw [got_ne (by decide)] at q; exact q)), (fun q => (h.f1 (by rw [got_ne (by decide)] at q; exact q)).farT hg hb (by decide) (by decide) (by decide)), (fun q => (h.f3 (by rw [got_ne (by decide)] at q; exact q)).farT hg hb (by decide)), (fun q => (h.f5 (by rw [got_ne (by decide)] at q; exact q)).farT hg hb (by decide) (by decide)), (fun _ => ⟨N, hp, hN, hb'⟩), (fun q => (h.f7 (by rw [got_ne (by decide)] at q; exact q)).farT hg hb (by decide)), (fun q => (h.f8 (by rw [got_ne (by decide)] at q; exact q)).farT hg hb (by decide)), (fun q => by rw [got_self (by omega)] at q; cases q), (fun q => h.z10 (by rw [got_ne (by decide)] at q; exact q)), (fun q => h.z11 (by rw [got_ne (by decide)] at q; exact q)), (fun _ => hv), (fun q => h.e10 (by rw [got_ne (by decide)] at q; exact q)), (fun q => h.e11 (by rw [got_ne (by decide)] at q; exact q)), (fun q => by rw [got_ne (by decide)] at q ⊢; exact h.k5 q), (fun q => by rw [got_ne (by decide)] at q ⊢; exact h.k3 q), (fun _ => gd_set hG), (fun q => gd_set (h.g10 (by rw [got_ne (by decide)] at q; exact q))), (fun q => gd_set (h.g11 (by rw [got_ne (by decide)] at q; exact q)))⟩
theorem JF.store10 {s : St} {ts : List Me} {seq next : Int} {drop : List Int} {add : List Me} {sq2 nx2 : Int} {SV VV EV : Value} {w1 : World} {l : Array Bool} {w : World} {p9 p10 p11 v20 v21 v22 v23 v24 v25 : Value} {zA zB zC : Array Value} (h : JF s ts seq next drop add sq2 nx2 SV VV EV w1 l w p9 p10 p11 v20 v21 v22 v23 v24 v25 zA zB zC) (hs : l.size = 12) (hG : Gd l) {w' : World} {N : Nat} {cs z' : Array Value} (hp : p10 = .pointer (some ⟨N, 0, none⟩)) (hN : w1.heap.size ≤ N) (hb : w.heap[N]? = some (.cells cs 39)) (hg : w.grownBy w' (some N)) (hb' : w'.heap[N]? = some (.cells z' 39)) (hv : v23 = .agg z') : JF s ts seq next drop add sq2 nx2 SV VV EV w1 (l.setIfInBounds 10 true) w' p9 p10 p11 v20 v21 v22 v23 v24 v25 zA z' zC :=
  ⟨(h.up.trans (below_grown hg h.up.size (fun k hk => by injection hk with hk; omega))), (fun q => h.f0 (by rw [got_ne (by decide)] at q; exact q)), (fun q => h.f2 (by rw [got_ne (by decide)] at q; exact q)), (fun q => h.f4 (by rw [got_ne (by decide)] at q; exact q)), (fun q => (h.f1 (by rw [got_ne (by decide)] at q; exact q)).farT hg hb (by decide) (by decide) (by decide)), (fun q => (h.f3 (by rw [got_ne (by decide)] at q; exact q)).farT hg hb (by decide)), (fun q => (h.f5 (by rw [got_ne (by decide)] at q; exact q)).farT hg hb (by decide) (by decide)), (fun q => (h.f6 (by rw [got_ne (by decide)] at q; exact q)).farT hg hb (by decide)), (fun _ => ⟨N, hp, hN, hb'⟩), (fun q => (h.f8 (by rw [got_ne (by decide)] at q; exact q)).farT hg hb (by decide)), (fun q => h.z9 (by rw [got_ne (by decide)] at q; exact q)), (fun q => by rw [got_self (by omega)] at q; cases q), (fun q => h.z11 (by rw [got_ne (by decide)] at q; exact q)), (fun q => h.e9 (by rw [got_ne (by decide)] at q; exact q)), (fun _ => hv), (fun q => h.e11 (by rw [got_ne (by decide)] at q; exact q)), (fun q => by rw [got_ne (by decide)] at q ⊢; exact h.k5 q), (fun q => by rw [got_ne (by decide)] at q ⊢; exact h.k3 q), (fun q => gd_set (h.g9 (by rw [got_ne (by decide)] at q; exact q))), (fun _ => gd_set hG), (fun q => gd_set (h.g11 (by rw [got_ne (by decide)] at q; exact q)))⟩
theorem JF.store11 {s : St} {ts : List Me} {seq next : Int} {drop : List Int} {add : List Me} {sq2 nx2 : Int} {SV VV EV : Value} {w1 : World} {l : Array Bool} {w : World} {p9 p10 p11 v20 v21 v22 v23 v24 v25 : Value} {zA zB zC : Array Value} (h : JF s ts seq next drop add sq2 nx2 SV VV EV w1 l w p9 p10 p11 v20 v21 v22 v23 v24 v25 zA zB zC) (hs : l.size = 12) (hG : Gd l) {w' : World} {N : Nat} {cs z' : Array Value} (hp : p11 = .pointer (some ⟨N, 0, none⟩)) (hN : w1.heap.size ≤ N) (hb : w.heap[N]? = some (.cells cs 42)) (hg : w.grownBy w' (some N)) (hb' : w'.heap[N]? = some (.cells z' 42)) (hv : v25 = .agg z') : JF s ts seq next drop add sq2 nx2 SV VV EV w1 (l.setIfInBounds 11 true) w' p9 p10 p11 v20 v21 v22 v23 v24 v25 zA zB z' :=
  ⟨(h.up.trans (below_grown hg h.up.size (fun k hk => by injection hk with hk; omega))), (fun q => h.f0 (by rw [got_ne (by decide)] at q; exact q)), (fun q => h.f2 (by rw [got_ne (by decide)] at q; exact q)), (fun q => h.f4 (by rw [got_ne (by decide)] at q; exact q)), (fun q => (h.f1 (by rw [got_ne (by decide)] at q; exact q)).farT hg hb (by decide) (by decide) (by decide)), (fun q => (h.f3 (by rw [got_ne (by decide)] at q; exact q)).farT hg hb (by decide)), (fun q => (h.f5 (by rw [got_ne (by decide)] at q; exact q)).farT hg hb (by decide) (by decide)), (fun q => (h.f6 (by rw [got_ne (by decide)] at q; exact q)).farT hg hb (by decide)), (fun q => (h.f7 (by rw [got_ne (by decide)] at q; exact q)).farT hg hb (by decide)), (fun _ => ⟨N, hp, hN, hb'⟩), (fun q => h.z9 (by rw [got_ne (by decide)] at q; exact q)), (fun q => h.z10 (by rw [got_ne (by decide)] at q; exact q)), (fun q => by rw [got_self (by omega)] at q; cases q), (fun q => h.e9 (by rw [got_ne (by decide)] at q; exact q)), (fun q => h.e10 (by rw [got_ne (by decide)] at q; exact q)), (fun _ => hv), (fun q => by rw [got_ne (by decide)] at q ⊢; exact h.k5 q), (fun q => by rw [got_ne (by decide)] at q ⊢; exact h.k3 q), (fun q => gd_set (h.g9 (by rw [got_ne (by decide)] at q; exact q))), (fun q => gd_set (h.g10 (by rw [got_ne (by decide)] at q; exact q))), (fun _ => gd_set hG)⟩
def JA (s : St) (ts : List Me) (seq next : Int) (drop : List Int) (add : List Me) (sq2 nx2 : Int) (SV VV EV : Value) (w1 : World) (t0 t1 t2 t3 t4 t5 t7 : Value) (l : Array Bool) (a : Act) (w : World) : Prop := ∃ p9 p10 p11 v20 v21 v22 v23 v24 v25 : Value, ∃ zA zB zC : Array Value, a = actA t0 t1 t2 t3 t4 t5 t7 p9 p10 p11 v20 v21 v22 v23 v24 v25 ∧ JF s ts seq next drop add sq2 nx2 SV VV EV w1 l w p9 p10 p11 v20 v21 v22 v23 v24 v25 zA zB zC
theorem got_none (n j : Nat) : (Array.replicate n false).getD j false = false := by
  simp only [Array.getD_eq_getD_getElem?, Array.getElem?_replicate]
  split <;> rfl
theorem notYet_rep (n : Nat) : notYet (Array.replicate n false).toList ≤ n := by
  rw [Array.toList_replicate]
  induction n with
  | zero => exact Nat.le_refl _
  | succ n ih => rw [List.replicate_succ]; simp only [notYet]; simp; omega
theorem all_in {md : Region.Mode} {ops : Array Oper} {l : Array Bool} (hr : Region.ready md ops l = []) (hs : l.size = ops.size) (hc : ((List.range ops.size).all fun j => match ops[j]? with | some o => o.after.toList.all fun e => decide (e.on < j) | none => false) = true) : ∀ (n j : Nat), j < n → j < ops.size → l.getD j false = true
  | 0, j, h, _ => absurd h (Nat.not_lt_zero _)
  | n + 1, j, h, hj => by
    have hq := List.all_eq_true.1 hc j (List.mem_range.2 hj)
    cases ho : ops[j]? with
    | none => rw [ho] at hq; cases hq
    | some o =>
      rw [ho] at hq
      cases h : l.getD j false with
      | true => rfl
      | false =>
        have := ready_in (md := md) (by omega) h ho (fun e he => by
          have h1 := List.all_eq_true.1 hq e he
          have h2 : e.on < j := by simpa using h1
          exact all_in hr hs hc n e.on (by omega) (by omega))
        rw [hr] at this
        cases this
end Go.Proofs.YtnchjlimkgbfpaaGreatDoor

namespace Go.Proofs.YtnchjlimkgbfpaaGreatDoor
open Go.RowKit
set_option linter.unusedVariables false
set_option maxRecDepth 20000
set_option linter.unusedSimpArgs false
set_option maxHeartbeats 2000000 in
theorem sameNames_self (l : List (List Int × Int)) (v u : Value) (w : World) (hv : NamesW w v l) (hu : NamesW w u l) :
    Calls Tryz.prog 47 #[v, u] w fun e w' => e = .returned (.bool true) ∧ Below w.heap.size w w' := by
  have HV : Hid (NamesW w v l ∧ NamesW w u l) := ⟨hv, hu⟩
  obtain ⟨a1, c1, e1, _, m1⟩ := hv.len
  obtain ⟨a2, c2, e2, _, m2⟩ := hu.len
  subst e1
  subst e2
  have hl63 : l.length ≤ 9223372036854775807 := by unfold maxLen at m1; omega
  clear hv hu
  go_enter Tryz.func47, Tryz.ntmps47
  go_wp2_with fail
  go_loopw [5] (fun i wr => ∃ k : Nat, k ≤ l.length ∧ i = .int .i64 k ∧ Hid (Below w.heap.size w wr)) (fun i _ => l.length - (intOf i).toNat)
  case atStart => exact ⟨0, Nat.zero_le _, rfl, Below.refl _ _⟩
  case round =>
    obtain ⟨k, hk, rfl, up⟩ := hrel
    by_cases hlt : k < l.length
    · have hlt' : (k : Int) < (l.length : Int) := by omega
      obtain ⟨b, off, cap, e, _, _, z0, z1, _⟩ := (HV.out.1.up up.out).at k hlt
      obtain ⟨b', off', cap', e', _, _, y0, y1, _⟩ := (HV.out.2.up up.out).at k hlt
      simp at e e'
      obtain ⟨rfl, rfl⟩ := e
      obtain ⟨rfl, rfl⟩ := e'
      generalize l.getD k ([], 0) = x at *
      obtain ⟨xs, xi⟩ := x
      simp only at z0 z1 y0 y1
      have z0' := fun (p : UpW wr) => cell_up z0 p
      have z1' := fun (p : UpW wr) => cell_up z1 p
      have y0' := fun (p : UpW wr) => cell_up y0 p
      have y1' := fun (p : UpW wr) => cell_up y1 p
      go_wp2_with fail
      refine wp_region_up (by kernel_rfl) (by kernel_rfl) ?_
      repeat (quiet_step (fail))
      refine wpQuiet_nil ?_
      intro _ hw'
      obtain ⟨p, hw''⟩ := hw'
      subst hw''
      have HU : Hid (Below w.heap.size w p.val) := up_trans up.out p.up
      go_wp2_with fail
      exact ⟨⟨k + 1, by omega, by go_num, HU⟩, by simp [intOf]; omega⟩
    · have hlt' : ¬ (k : Int) < (l.length : Int) := by omega
      go_wp2_with fail
      go_ret
      exact ⟨rfl, up.out⟩
end Go.Proofs.YtnchjlimkgbfpaaGreatDoor
