/- Plain facts: the program's walk along the ways tells just whether a list may be. -/
import Derived.Test.YtfnddbglopoghaaMCut
namespace Go.Proofs.Ytfnddbglopoghaa
open Go.RowKit
set_option linter.unusedVariables false
set_option linter.unusedSimpArgs false

/-- The ways behind a node of that number: none where one of them does not come to it. -/
def stepW : List Int → Nat → Int → List Int → Option (List Int)
  | [], _, _, W => some W
  | x :: xs, l, num, W => if W.getD l 0 = num then stepW xs (l + 1) num (W.set l x) else none
def joinF (ns : List (En × List Int)) : Nat → List Int → En → Bool
  | 0, W, _ => decide (W = List.replicate 8 0)
  | n + 1, W, last =>
    if W.getD 0 0 < 1 ∨ (ns.length : Int) < W.getD 0 0 then false
    else if beforeE last (ns.getD (W.getD 0 0 - 1).toNat default).1 = true then
      match stepW (ns.getD (W.getD 0 0 - 1).toNat default).2 0 (W.getD 0 0) W with
      | none => false
      | some W' => joinF ns n W' (ns.getD (W.getD 0 0 - 1).toNat default).1
    else false

theorem stepW_iff : ∀ (xs : List Int) (l : Nat) (num : Int) (W : List Int), l + xs.length ≤ W.length →
    (∀ W', stepW xs l num W = some W' ↔ ((∀ j, j < xs.length → W.getD (l + j) 0 = num) ∧ W'.length = W.length ∧ ∀ j, j < W.length → W'.getD j 0 = if l ≤ j ∧ j < l + xs.length then xs.getD (j - l) 0 else W.getD j 0))
  | [], l, num, W, h, W' => by
    simp only [stepW, Option.some.injEq, List.length_nil, Nat.add_zero]
    constructor
    · rintro rfl
      refine ⟨fun j hj => by omega, rfl, fun j hj => ?_⟩
      rw [if_neg (by omega)]
    · rintro ⟨_, h1, h2⟩
      refine ints_ext h1.symm (fun j hj => ?_)
      rw [h2 j hj, if_neg (by omega)]
  | x :: xs, l, num, W, h, W' => by
    simp only [List.length_cons] at h
    have ih := stepW_iff xs (l + 1) num (W.set l x) (by rw [List.length_set]; omega) W'
    unfold stepW
    by_cases q : W.getD l 0 = num
    · rw [if_pos q, ih]
      simp only [List.length_set, List.length_cons]
      constructor
      · rintro ⟨h1, h2, h3⟩
        refine ⟨fun j hj => ?_, h2, fun j hj => ?_⟩
        · cases j with
          | zero => exact q
          | succ j =>
            have := h1 j (by omega)
            rw [getD_set, if_neg (by omega)] at this
            rw [← this]
            congr 1
            omega
        · rw [h3 j hj]
          by_cases e : j = l
          · subst e
            rw [if_neg (by omega), if_pos (by omega), getD_set, if_pos (by omega)]
            simp
          · have hg : (W.set l x).getD j 0 = W.getD j 0 := by rw [getD_set, if_neg (fun r => e r.1)]
            rw [hg]
            by_cases e2 : l + 1 ≤ j ∧ j < l + 1 + xs.length
            · rw [if_pos e2, if_pos (by omega)]
              have : j - l = (j - (l + 1)) + 1 := by omega
              rw [this]
              simp
            · rw [if_neg e2, if_neg (by omega)]
      · rintro ⟨h1, h2, h3⟩
        refine ⟨fun j hj => ?_, h2, fun j hj => ?_⟩
        · rw [getD_set, if_neg (by omega)]
          have := h1 (j + 1) (by omega)
          rw [← this]
          congr 1
          omega
        · rw [h3 j hj]
          by_cases e : j = l
          · subst e
            rw [if_pos (by omega), if_neg (by omega), getD_set, if_pos (by omega)]
            simp
          · have hg : (W.set l x).getD j 0 = W.getD j 0 := by rw [getD_set, if_neg (fun r => e r.1)]
            rw [hg]
            by_cases e2 : l + 1 ≤ j ∧ j < l + 1 + xs.length
            · rw [if_pos e2, if_pos (by omega)]
              have : j - l = (j - (l + 1)) + 1 := by omega
              rw [this]
              simp
            · rw [if_neg e2, if_neg (by omega)]
    · rw [if_neg q]
      constructor
      · intro r; cases r
      · rintro ⟨h1, _⟩
        exact absurd (h1 0 (by simp)) q

theorem rep_get (l : Nat) : (List.replicate 8 (0 : Int)).getD l 0 = 0 := by
  simp only [List.getD, List.getElem?_replicate]
  split <;> rfl
/-- The walk comes to its end just where the ways go through some places in order. -/
theorem joinF_iff (s : Sk) (hh : ∀ k, k < s.nodes.length → 1 ≤ s.h k ∧ s.h k ≤ 8) : ∀ (n : Nat) (W : List Int) (last : En), W.length = 8 →
    (joinF s.nodes n W last = true ↔ ∃ p : List Nat, p.length = n ∧ (∀ k ∈ p, k < s.nodes.length) ∧ Srt s.es p ∧ (∀ k ∈ p, beforeE last (s.at' k).1 = true) ∧ ∀ l, l < 8 → chainOK s.h s.nx l p (W.getD l 0))
  | 0, W, last, hW => by
    unfold joinF
    rw [decide_eq_true_iff]
    constructor
    · rintro rfl
      refine ⟨[], rfl, (fun k hk => by cases hk), List.Pairwise.nil, (fun k hk => by cases hk), fun l hl => ?_⟩
      unfold chainOK
      exact rep_get l
    · rintro ⟨p, hp, _, _, _, hc⟩
      obtain rfl : p = [] := List.length_eq_zero_iff.1 hp
      refine ints_ext (by simp [hW]) (fun j hj => ?_)
      have := hc j (by omega)
      unfold chainOK at this
      rw [this, rep_get]
  | n + 1, W, last, hW => by
    unfold joinF
    constructor
    · intro H
      by_cases q : W.getD 0 0 < 1 ∨ (s.nodes.length : Int) < W.getD 0 0
      · rw [if_pos q] at H; cases H
      · rw [if_neg q] at H
        obtain ⟨k, hk⟩ : ∃ k : Nat, W.getD 0 0 = (k : Int) + 1 := ⟨(W.getD 0 0 - 1).toNat, by omega⟩
        have hkn : k < s.nodes.length := by omega
        rw [hk, show ((k : Int) + 1 - 1).toNat = k by omega] at H
        have hat : s.nodes.getD k default = s.at' k := rfl
        rw [hat] at H
        by_cases hb : beforeE last (s.at' k).1 = true
        · rw [if_pos hb] at H
          cases hs : stepW (s.at' k).2 0 ((k : Int) + 1) W with
          | none => rw [hs] at H; cases H
          | some W' =>
            rw [hs] at H
            have h8 := hh k hkn
            have hst := (stepW_iff (s.at' k).2 0 _ W (by have := h8.2; unfold Sk.h at this; omega) W').1 hs
            obtain ⟨p, p1, p2, p3, p4, p5⟩ := (joinF_iff s hh n W' (s.at' k).1 (by omega)).1 H
            refine ⟨k :: p, by simp [p1], ?_, ?_, ?_, ?_⟩
            · intro j hj
              rcases List.mem_cons.1 hj with rfl | r
              · exact hkn
              · exact p2 j r
            · refine List.pairwise_cons.2 ⟨fun j hj => ?_, p3⟩
              rw [Sk.eAt, Sk.eAt]
              exact p4 j hj
            · intro j hj
              rcases List.mem_cons.1 hj with rfl | r
              · exact hb
              · exact beforeS_trans hb (p4 j r)
            · intro l hl
              have h5 := p5 l hl
              have h3 := hst.2.2 l (by omega)
              by_cases e : l < s.h k
              · refine (chain_in e).2 ⟨?_, ?_⟩
                · have := hst.1 l e
                  rw [Nat.zero_add] at this
                  exact this
                · rw [h3, if_pos (by unfold Sk.h at e; omega)] at h5
                  exact h5
              · refine (chain_out e).2 ?_
                rw [h3, if_neg (by unfold Sk.h at e; omega)] at h5
                exact h5
        · rw [if_neg hb] at H; cases H
    · rintro ⟨p, p1, p2, p3, p4, p5⟩
      cases p with
      | nil => simp at p1
      | cons k p =>
        have hkn := p2 k (by simp)
        have h8 := hh k hkn
        have hk := ((chain_in (by omega)).1 (p5 0 (by omega))).1
        rw [if_neg (by omega), hk, show ((k : Int) + 1 - 1).toNat = k by omega]
        have hat : s.nodes.getD k default = s.at' k := rfl
        rw [hat, if_pos (p4 k (by simp))]
        have hlen : 0 + (s.at' k).2.length ≤ W.length := by have := h8.2; unfold Sk.h at this; omega
        obtain ⟨W', hW'⟩ : ∃ W' : List Int, W'.length = W.length ∧ ∀ j, j < W.length → W'.getD j 0 = if 0 ≤ j ∧ j < 0 + (s.at' k).2.length then (s.at' k).2.getD (j - 0) 0 else W.getD j 0 := by
          refine ⟨(List.range W.length).map (fun j => if 0 ≤ j ∧ j < 0 + (s.at' k).2.length then (s.at' k).2.getD (j - 0) 0 else W.getD j 0), by simp, fun j hj => ?_⟩
          simp [List.getD, hj]
        have hs := (stepW_iff (s.at' k).2 0 ((k : Int) + 1) W hlen W').2 ⟨fun j hj => ?_, hW'.1, hW'.2⟩
        · rw [hs]
          have p3' := List.pairwise_cons.1 p3
          refine (joinF_iff s hh n W' (s.at' k).1 (by omega)).2 ⟨p, by simpa using p1, fun j hj => p2 j (by simp [hj]), p3'.2, fun j hj => ?_, fun l hl => ?_⟩
          · have := p3'.1 j hj
            rw [Sk.eAt, Sk.eAt] at this
            exact this
          · rw [hW'.2 l (by omega)]
            by_cases e : l < s.h k
            · rw [if_pos (by unfold Sk.h at e; omega)]
              exact ((chain_in e).1 (p5 l hl)).2
            · rw [if_neg (by unfold Sk.h at e; omega)]
              exact (chain_out e).1 (p5 l hl)
        · rw [Nat.zero_add]
          have e : j < s.h k := hj
          exact ((chain_in e).1 (p5 j (by omega))).1

/-- A list may be. -/
structure Good (s : Sk) : Prop where
  few : s.nodes.length ≤ 4096
  head : s.head.length = 8
  may : ∀ k, k < s.nodes.length → mayE (s.at' k).1 = true
  high : ∀ k, k < s.nodes.length → 1 ≤ s.h k ∧ s.h k ≤ 8
  ones : Ones s.es
  link : Linked s s.ord
theorem Good.srt {s : Sk} (h : Good s) : Srt s.es s.ord := by
  have := orderF_srt s.es h.ones s.es.length (Nat.le_refl _)
  rw [Sk.es_len] at this
  exact this
theorem Good.mem {s : Sk} (h : Good s) (k : Nat) : k ∈ s.ord ↔ k < s.nodes.length := by
  have := orderF_mem s.es h.ones k
  rw [Sk.es_len] at this
  exact this
theorem Good.high8 {s : Sk} (h : Good s) (k : Nat) : s.h k ≤ 8 := by
  by_cases q : k < s.nodes.length
  · exact (h.high k q).2
  · simp [Sk.h, Sk.at', List.getD, q]
    exact Nat.zero_le _

/-- The program's Check. -/
def checkS (s : Sk) : Bool := decide (s.nodes.length ≤ 4096) && (decide (s.head.length = 8) && (s.nodes.all (fun nd => mayE nd.1 && reachP' nd.2.length) && joinF s.nodes s.nodes.length s.head default))
where reachP' (n : Nat) : Bool := decide (1 ≤ n ∧ n ≤ 8)
theorem before_default {a : En} (h : mayE a = true) : beforeE default a = true := by
  simp only [mayE, decide_eq_true_eq] at h
  have hk : a.key.toList ≠ [] := by
    intro e
    have h2 := congrArg List.length e
    rw [ByteArray.toList_eq] at h2
    have : a.key.size = 0 := by simpa using h2
    omega
  have e0 : (default : En).key.toList = [] := by rw [ByteArray.toList_eq]; rfl
  have : Op.bytesLess (default : En).key.toList a.key.toList = true := by
    rw [e0]
    cases q : a.key.toList with
    | nil => exact absurd q hk
    | cons x l => rfl
  simp [beforeE, this]
theorem checkS_iff (s : Sk) : checkS s = true ↔ Good s := by
  unfold checkS
  simp only [Bool.and_eq_true, decide_eq_true_eq, List.all_eq_true, checkS.reachP']
  constructor
  · rintro ⟨h1, h2, h3, h4⟩
    have hat : ∀ k, k < s.nodes.length → s.at' k ∈ s.nodes := by
      intro k hk
      simp [Sk.at', List.getD, hk]
    have hh : ∀ k, k < s.nodes.length → 1 ≤ s.h k ∧ s.h k ≤ 8 := fun k hk => (h3 _ (hat k hk)).2
    obtain ⟨p, p1, p2, p3, p4, p5⟩ := (joinF_iff s hh _ _ _ h2).1 h4
    have pc : ∀ k, k < s.nodes.length → k ∈ p := pigeon _ p (Srt.nodup p3) p2 (by omega)
    have hones : Ones s.es := by
      intro i j hi hj hne
      rw [Sk.es_len] at hi hj
      cases t : twin (eAt s.es i) (eAt s.es j)
      · rfl
      · exfalso
        have key : ∀ q : List Nat, Srt s.es q → i ∈ q → j ∈ q → False := by
          intro q
          induction q with
          | nil => intro _ hi; cases hi
          | cons a q ih =>
            intro hs hi hj
            have hs' := List.pairwise_cons.1 hs
            rcases List.mem_cons.1 hi with e1 | hi'
            · subst e1
              rcases List.mem_cons.1 hj with e2 | hj'
              · exact hne e2.symm
              · have := hs'.1 j hj'
                rw [twin_before t] at this
                cases this
            · rcases List.mem_cons.1 hj with e2 | hj'
              · subst e2
                have := hs'.1 i hi'
                rw [twin_before (twin_symm t)] at this
                cases this
              · exact ih hs'.2 hi' hj'
        exact key p p3 (pc i hi) (pc j hj)
    have ho : s.ord = p := by
      refine srt_unique s.es _ _ ?_ p3 (fun k => ?_)
      · have := orderF_srt s.es hones s.es.length (Nat.le_refl _)
        rw [Sk.es_len] at this
        exact this
      · have := orderF_mem s.es hones k
        rw [Sk.es_len] at this
        unfold Sk.ord
        rw [this]
        exact ⟨pc k, p2 k⟩
    refine ⟨h1, h2, fun k hk => (h3 _ (hat k hk)).1, hh, hones, ?_⟩
    rw [ho]
    exact p5
  · intro g
    refine ⟨g.few, g.head, ?_, ?_⟩
    · intro nd hnd
      obtain ⟨k, hk⟩ := List.mem_iff_getElem?.1 hnd
      have hk' := (List.getElem?_eq_some_iff.1 hk).1
      have e : s.at' k = nd := by simp [Sk.at', List.getD, hk]
      have a := g.may k hk'
      have b := g.high k hk'
      unfold Sk.h at b
      rw [e] at a b
      exact ⟨a, b⟩
    · refine (joinF_iff s g.high _ _ _ g.head).2 ⟨s.ord, ?_, fun k hk => (g.mem k).1 hk, g.srt, fun k hk => before_default (g.may k ((g.mem k).1 hk)), g.link⟩
      exact orderF_len _ _
end Go.Proofs.Ytfnddbglopoghaa
