/- The law KeysOwn, walked: for any text of at most 2^40 octets the Go function returns true and changes nothing that was there. -/
import Derived.Test.YtjnbjooagdgfpaaRefDec
import Derived.Test.YtjnbjooagdgfpaaSame
import Derived.Test.YtjnbjooagdgfpaaAlive
namespace Go.Proofs.Ytjnbjooagdgfpaa
open Go.RowKit
set_option linter.unusedVariables false

theorem grown_set {w w' : World} {b : Nat} (h : w.grownBy w' (some b)) (i : Nat) (v : Value) : w.grownBy (w'.setCell ⟨b, i, none⟩ v) (some b) :=
  ⟨h.os, h.tape, h.output, by simpa [World.setCell] using h.size, fun k hk hne => (Below.heap_setCell w' ⟨b, i, none⟩ v k (fun e => hne (by rw [e]))).trans (h.block k hk hne)⟩

theorem OwnP.wf {s : List Int} (hs : ∀ x ∈ s, 0 ≤ x ∧ x ≤ 255) : ∀ (n : Nat) (rest : List Int) (a : List (Bool × Int × List Int)), (∀ x ∈ rest, 0 ≤ x ∧ x ≤ 255) → rest.length ≤ n → rest.length ≤ 1099511627776 → (∀ p ∈ a, Pwf p ∧ okP p = true) → ∀ p ∈ (decAux n rest a).1, Pwf p ∧ okP p = true
  | 0, rest, a, _, _, _, ha => by simpa [decAux] using ha
  | n + 1, [], a, _, _, _, ha => by simpa [decAux] using ha
  | n + 1, y :: r, a, hr, hn, hb, ha => by
    unfold decAux
    rw [if_neg (by simp)]
    rcases first_says y r hr with ⟨e, h1, h2⟩ | ⟨p, k, h1, h2, h3, h4, h5, h6, h7, h8⟩
    · have he : ¬ e = 0 := by omega
      rw [h1, if_neg he]
      intro p hp
      cases hp
    · rw [h1, if_pos rfl]
      simp only [List.length_cons] at hn hb
      refine OwnP.wf hs n ((y :: r).drop k) (a ++ [p]) (fun x hx => hr x (List.mem_of_mem_drop hx)) (by rw [List.length_drop, List.length_cons]; omega) (by rw [List.length_drop, List.length_cons]; omega) ?_
      intro q hq
      rcases List.mem_append.1 hq with h | h
      · exact ha q h
      · simp at h
        subst h
        exact ⟨⟨h6, h7, by unfold maxLen; omega⟩, h5⟩

theorem decode_wf (s : List Int) (hs : ∀ x ∈ s, 0 ≤ x ∧ x ≤ 255) (hm : s.length ≤ 1099511627776) : ∀ p ∈ (decodeOf s).1, Pwf p ∧ okP p = true := by
  have h := OwnP.wf hs s.length s [] hs (Nat.le_refl _) hm (fun p hp => by cases hp)
  unfold decodeOf
  split
  · split
    · intro p hp; cases hp
    · exact h
  · intro p hp; cases hp

/-- A slice of one's own, every cell of which may be written. -/
theorem OwnP.open {w : World} {base : Nat} {e : TypeId} {v : Value} {l : List (Bool × Int × List Int)} (h : OwnP w base e v l) (hl : l ≠ []) :
    ∃ g cap, v = .slice (some ⟨g, 0, none⟩) l.length cap ∧ base ≤ g ∧ g < w.heap.size ∧ l.length ≤ cap ∧ cap ≤ maxLen ∧ ∀ i, i < l.length * 3 → (∃ x, w.cell? ⟨g, i, none⟩ = some x) ∧ w.frozen? ⟨g, i, none⟩ = false := by
  have hlt := h.lt
  obtain ⟨_, h2⟩ := h
  rcases h2 with ⟨rfl, h0⟩ | ⟨g, cap, cur, rfl, hg, hh, hn, hm, hs, ht⟩
  · exact absurd (List.length_eq_zero_iff.1 h0) hl
  · refine ⟨g, cap, rfl, hg, (hlt g rfl).2, hn, hm, fun i hi => ⟨⟨cur[i]'(by rw [hs]; have := Nat.mul_le_mul_right 3 hn; omega), ?_⟩, ?_⟩⟩
    · simp only [World.cell?, hh]
      simp [Array.getElem?_eq_getElem (show i < cur.size by rw [hs]; have := Nat.mul_le_mul_right 3 hn; omega)]
    · simp [World.frozen?, hh]

theorem OwnP.kept {w w' : World} {base : Nat} {e : TypeId} {v : Value} {l : List (Bool × Int × List Int)} (h : OwnP w base e v l) {g : Nat} (hg : g < base) (hgr : w.grownBy w' (some g)) : OwnP w' base e v l := by
  have hlt := h.lt
  obtain ⟨h1, h2⟩ := h
  refine ⟨h1, ?_⟩
  rcases h2 with h0 | ⟨b, cap, cur, rfl, hb, hh, r⟩
  · exact .inl h0
  · exact .inr ⟨b, cap, cur, rfl, hb, (hgr.block b (hlt b rfl).2 (fun e => by injection e; omega)).trans hh, r⟩

set_option maxHeartbeats 2000000 in
theorem own_walk (s : List Int) (hs : ∀ x ∈ s, 0 ≤ x ∧ x ≤ 255) (hm : s.length ≤ 1099511627776) (w : World) :
    Calls Try.prog 8 #[.string (strOfNums s)] w fun e w' => e = .returned (.bool true) ∧ Below w.heap.size w w' := by
  have HWF : Hid (∀ p ∈ (decodeOf s).1, Pwf p) := fun p hp => (decode_wf s hs hm p hp).1
  have HS : Hid (∀ x ∈ s, 0 ≤ x ∧ x ≤ 255) := hs
  clear hs
  go_enter Try.func8, Try.ntmps8
  go_wp2_with fail
  refine (alive_any _).mono ?_
  rintro e w1 ⟨rfl, hb1⟩
  have U1 : Hid (Below w.heap.size w w1) := hb1
  clear hb1
  go_wp2_with fail
  refine (decode_any s HS.out hm _).mono ?_
  rintro e w2 ⟨va, rfl, ho2, hb2⟩
  have U2 : Hid (Below w.heap.size w w2) := up_trans U1.out hb2
  have hz2 := hb2.size
  have hz1 := U1.out.size
  have HA2 : Hid (OwnP w2 w1.heap.size 49 va (decodeOf s).1) := ho2
  clear ho2 hb2 U1
  go_wp2_with fail
  refine (refDecode_any s HS.out hm _).mono ?_
  rintro e w3 ⟨vb, rfl, ho3, hb3⟩
  have U3 : Hid (Below w.heap.size w w3) := up_trans U2.out hb3
  have HA3 : Hid (OwnP w3 w1.heap.size 49 va (decodeOf s).1) := HA2.out.up hb3
  have HB3 : Hid (OwnP w3 w2.heap.size 51 vb (decodeOf s).1) := ho3
  have hz3 := hb3.size
  have fin : Hid (∀ wr, Below w.heap.size w wr → Parts wr vb (decodeOf s).1 → True) := fun _ _ _ => trivial
  by_cases hne : (decodeOf s).1 = []
  · obtain ⟨ad, cap, rfl, hcap, hcm⟩ := HA3.out.slice
    have hl0 : (decodeOf s).1.length = 0 := by rw [hne]; rfl
    rw [hl0]
    have HP : Hid (Parts w3 vb (decodeOf s).1) := Parts.own HB3.out HWF.out
    clear ho3 hb3 HA2 HA3 HB3 U2 fin hcap hcm hl0 hne
    go_wp2
    go_loopw [7] (fun i wr => i = .int .i64 0 ∧ wr = w3) (fun _ _ => 0)
    case atStart => exact ⟨rfl, rfl⟩
    case round =>
      obtain ⟨rfl, rfl⟩ := hrel
      go_wp2_with fail
      refine (decode_any s HS.out hm _).mono ?_
      rintro e w5 ⟨vc, rfl, ho5, hb5⟩
      have HC : Hid (Parts w5 vc (decodeOf s).1) := Parts.own ho5 HWF.out
      have HP5 : Hid (Parts w5 vb (decodeOf s).1) := HP.out.up hb5
      have U5 : Hid (Below w.heap.size w w5) := up_trans U3.out hb5
      clear ho5 hb5 HP U3
      generalize (decodeOf s).2 = er at *
      go_wp2_with fail
      refine (num_any _ _).mono ?_
      rintro e w6 ⟨rfl, rfl⟩
      go_wp2_with fail
      refine (num_any _ _).mono ?_
      rintro e w6 ⟨rfl, rfl⟩
      go_wp2_with fail
      refine (same_one _ _ _ _ HC.out HP5.out).mono ?_
      rintro e w7 ⟨rfl, d, rfl⟩
      go_wp2
      go_ret
      exact ⟨rfl, up_trans U5.out (up_drewN _ _)⟩
  · obtain ⟨g, cap, rfl, hg0, hg1, hcap, hcm, hcell⟩ := HA2.out.open hne
    unfold maxLen at hcm
    have HCell : Hid (∀ i, i < (decodeOf s).1.length * 3 → (∃ x, w3.cell? ⟨g, i, none⟩ = some x) ∧ w3.frozen? ⟨g, i, none⟩ = false) := by
      intro i hi
      obtain ⟨⟨x, hx⟩, hf⟩ := hcell i hi
      exact ⟨⟨x, (hb3.cell (p := ⟨g, i, none⟩) hg1).trans hx⟩, (hb3.frozen (p := ⟨g, i, none⟩) hg1).trans hf⟩
    clear ho3 hb3 HA2 HA3 U2 fin hcell
    generalize hll : (decodeOf s).1 = l at *
    go_wp2
    go_loopw [7] (fun i wr => ∃ k : Nat, k ≤ l.length ∧ i = .int .i64 k ∧ Hid (w3.grownBy wr (some g)) ∧ Hid (∀ i, i < l.length * 3 → (∃ x, wr.cell? ⟨g, i, none⟩ = some x) ∧ wr.frozen? ⟨g, i, none⟩ = false)) (fun i _ => l.length - (intOf i).toNat)
    case atStart => exact ⟨0, Nat.zero_le _, rfl, grown_refl _ _, HCell⟩
    case round =>
      obtain ⟨k, hk, rfl, HG, HC⟩ := hrel
      by_cases hlt : k < l.length
      · have hlt' : (k : Int) < (l.length : Int) := by omega
        obtain ⟨⟨x0, c0⟩, f0⟩ := HC.out (k * 3) (by omega)
        obtain ⟨⟨x1, c1⟩, f1⟩ := HC.out (k * 3 + 1) (by omega)
        obtain ⟨⟨x2, c2⟩, f2⟩ := HC.out (k * 3 + 2) (by omega)
        have HG2 : ∀ u0 u1 u2, Hid (w3.grownBy (((wr.setCell ⟨g, k * 3, none⟩ u0).setCell ⟨g, k * 3 + 1, none⟩ u1).setCell ⟨g, k * 3 + 2, none⟩ u2) (some g)) := fun u0 u1 u2 => grown_set (grown_set (grown_set HG.out _ _) _ _) _ _
        have HC2 : ∀ u0 u1 u2, Hid (∀ i, i < l.length * 3 → (∃ x, (((wr.setCell ⟨g, k * 3, none⟩ u0).setCell ⟨g, k * 3 + 1, none⟩ u1).setCell ⟨g, k * 3 + 2, none⟩ u2).cell? ⟨g, i, none⟩ = some x) ∧ (((wr.setCell ⟨g, k * 3, none⟩ u0).setCell ⟨g, k * 3 + 1, none⟩ u1).setCell ⟨g, k * 3 + 2, none⟩ u2).frozen? ⟨g, i, none⟩ = false) := by
          intro u0 u1 u2 i hi
          obtain ⟨⟨x, hx⟩, hf⟩ := HC.out i hi
          obtain ⟨y1, h1⟩ := cell?_setCell_some (p := ⟨g, k * 3, none⟩) (x := u0) hx
          obtain ⟨y2, h2⟩ := cell?_setCell_some (p := ⟨g, k * 3 + 1, none⟩) (x := u1) h1
          obtain ⟨y3, h3⟩ := cell?_setCell_some (p := ⟨g, k * 3 + 2, none⟩) (x := u2) h2
          exact ⟨⟨y3, h3⟩, by simpa using hf⟩
        have HG3 : Hid _ := HG2
        have HC3 : Hid _ := HC2
        clear HG2 HC2
        go_wp2
        exact ⟨⟨k + 1, by omega, by go_num, HG3.out _ _ _, HC3.out _ _ _⟩, by simp [intOf]; omega⟩
      · have hlt' : ¬ (k : Int) < (l.length : Int) := by omega
        have Ur : Hid (Below w.heap.size w wr) := U3.out.grown HG.out (by have := U3.out.size; omega) (fun k hk => by injection hk; omega)
        have HPr : Hid (Parts wr vb l) := Parts.own (HB3.out.kept hg1 HG.out) HWF.out
        clear HG HC HCell HB3 U3
        go_wp2_with fail
        refine (decode_any s HS.out hm _).mono ?_
        rw [hll]
        rintro e w5 ⟨vc, rfl, ho5, hb5⟩
        have HC : Hid (Parts w5 vc l) := Parts.own ho5 HWF.out
        have HP5 : Hid (Parts w5 vb l) := HPr.out.up hb5
        have U5 : Hid (Below w.heap.size w w5) := up_trans Ur.out hb5
        clear ho5 hb5 HPr Ur
        generalize (decodeOf s).2 = er at *
        go_wp2_with fail
        refine (num_any _ _).mono ?_
        rintro e w6 ⟨rfl, rfl⟩
        go_wp2_with fail
        refine (num_any _ _).mono ?_
        rintro e w6 ⟨rfl, rfl⟩
        go_wp2_with fail
        refine (same_one _ _ _ _ HC.out HP5.out).mono ?_
        rintro e w7 ⟨rfl, d, rfl⟩
        go_wp2
        go_ret
        exact ⟨rfl, up_trans U5.out (up_drewN _ _)⟩

theorem own_upto (s : List Int) (hs : ∀ x ∈ s, 0 ≤ x ∧ x ≤ 255) (hm : s.length ≤ 1048576) {w : World} :
    Calls Try.prog 8 #[.string (strOfNums s)] w fun e w' => e = .returned (.bool true) ∧ Below w.heap.size w w' := own_walk s hs (by omega) w
end Go.Proofs.Ytjnbjooagdgfpaa
