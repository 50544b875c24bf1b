/- The texts MChk, MPut, PArr, PMake, in this order. -/
import Derived.Test.YtekoniaobmapdabG22
import Derived.Test.YtekoniaobmapdabG20
import Derived.Test.YtekoniaobmapdabG08
import Derived.ChangeKeysEq
import Derived.Laws.OwnMore

/- Plain facts: the program's walk along the ways tells just whether a list may be. -/
namespace Go.Proofs.Ytekoniaobmapdab
open Go.RowKit
set_option linter.unusedVariables false
set_option linter.unusedSimpArgs false

/-- The ways behind a node of that number: none where one of them does not come to it. -/
def stepW : List Int → Nat → Int → List Int → Option (List Int)
  | [], _, _, W => some W
  | x :: xs, l, num, W => if W.getD l 0 = num then stepW xs (l + 1) num (W.set l x) else none
def joinF (ns : List (En × List Int)) : Nat → List Int → En → Bool
  | 0, W, _ => decide (W = List.replicate 8 0)
  | n + 1, W, last =>
    if W.getD 0 0 < 1 ∨ (ns.length : Int) < W.getD 0 0 then false
    else if beforeE last (ns.getD (W.getD 0 0 - 1).toNat default).1 = true then
      match stepW (ns.getD (W.getD 0 0 - 1).toNat default).2 0 (W.getD 0 0) W with
      | none => false
      | some W' => joinF ns n W' (ns.getD (W.getD 0 0 - 1).toNat default).1
    else false

theorem stepW_iff : ∀ (xs : List Int) (l : Nat) (num : Int) (W : List Int), l + xs.length ≤ W.length →
    (∀ W', stepW xs l num W = some W' ↔ ((∀ j, j < xs.length → W.getD (l + j) 0 = num) ∧ W'.length = W.length ∧ ∀ j, j < W.length → W'.getD j 0 = if l ≤ j ∧ j < l + xs.length then xs.getD (j - l) 0 else W.getD j 0))
  | [], l, num, W, h, W' => by
    simp only [stepW, Option.some.injEq, List.length_nil, Nat.add_zero]
    constructor
    · rintro rfl
      refine ⟨fun j hj => by omega, rfl, fun j hj => ?_⟩
      rw [if_neg (by omega)]
    · rintro ⟨_, h1, h2⟩
      refine ints_ext h1.symm (fun j hj => ?_)
      rw [h2 j hj, if_neg (by omega)]
  | x :: xs, l, num, W, h, W' => by
    simp only [List.length_cons] at h
    have ih := stepW_iff xs (l + 1) num (W.set l x) (by rw [List.length_set]; omega) W'
    unfold stepW
    by_cases q : W.getD l 0 = num
    · rw [if_pos q, ih]
      simp only [List.length_set, List.length_cons]
      constructor
      · rintro ⟨h1, h2, h3⟩
        refine ⟨fun j hj => ?_, h2, fun j hj => ?_⟩
        · cases j with
          | zero => exact q
          | succ j =>
            have := h1 j (by omega)
            rw [getD_set, if_neg (by omega)] at this
            rw [← this]
            congr 1
            omega
        · rw [h3 j hj]
          by_cases e : j = l
          · subst e
            rw [if_neg (by omega), if_pos (by omega), getD_set, if_pos (by omega)]
            simp
          · have hg : (W.set l x).getD j 0 = W.getD j 0 := by rw [getD_set, if_neg (fun r => e r.1)]
            rw [hg]
            by_cases e2 : l + 1 ≤ j ∧ j < l + 1 + xs.length
            · rw [if_pos e2, if_pos (by omega)]
              have : j - l = (j - (l + 1)) + 1 := by omega
              rw [this]
              simp
            · rw [if_neg e2, if_neg (by omega)]
      · rintro ⟨h1, h2, h3⟩
        refine ⟨fun j hj => ?_, h2, fun j hj => ?_⟩
        · rw [getD_set, if_neg (by omega)]
          have := h1 (j + 1) (by omega)
          rw [← this]
          congr 1
          omega
        · rw [h3 j hj]
          by_cases e : j = l
          · subst e
            rw [if_pos (by omega), if_neg (by omega), getD_set, if_pos (by omega)]
            simp
          · have hg : (W.set l x).getD j 0 = W.getD j 0 := by rw [getD_set, if_neg (fun r => e r.1)]
            rw [hg]
            by_cases e2 : l + 1 ≤ j ∧ j < l + 1 + xs.length
            · rw [if_pos e2, if_pos (by omega)]
              have : j - l = (j - (l + 1)) + 1 := by omega
              rw [this]
              simp
            · rw [if_neg e2, if_neg (by omega)]
    · rw [if_neg q]
      constructor
      · intro r; cases r
      · rintro ⟨h1, _⟩
        exact absurd (h1 0 (by simp)) q

theorem rep_get (l : Nat) : (List.replicate 8 (0 : Int)).getD l 0 = 0 := by
  simp only [List.getD, List.getElem?_replicate]
  split <;> rfl
/-- The walk comes to its end just where the ways go through some places in order. -/
theorem joinF_iff (s : Sk) (hh : ∀ k, k < s.nodes.length → 1 ≤ s.h k ∧ s.h k ≤ 8) : ∀ (n : Nat) (W : List Int) (last : En), W.length = 8 →
    (joinF s.nodes n W last = true ↔ ∃ p : List Nat, p.length = n ∧ (∀ k ∈ p, k < s.nodes.length) ∧ Srt s.es p ∧ (∀ k ∈ p, beforeE last (s.at' k).1 = true) ∧ ∀ l, l < 8 → chainOK s.h s.nx l p (W.getD l 0))
  | 0, W, last, hW => by
    unfold joinF
    rw [decide_eq_true_iff]
    constructor
    · rintro rfl
      refine ⟨[], rfl, (fun k hk => by cases hk), List.Pairwise.nil, (fun k hk => by cases hk), fun l hl => ?_⟩
      unfold chainOK
      exact rep_get l
    · rintro ⟨p, hp, _, _, _, hc⟩
      obtain rfl : p = [] := List.length_eq_zero_iff.1 hp
      refine ints_ext (by simp [hW]) (fun j hj => ?_)
      have := hc j (by omega)
      unfold chainOK at this
      rw [this, rep_get]
  | n + 1, W, last, hW => by
    unfold joinF
    constructor
    · intro H
      by_cases q : W.getD 0 0 < 1 ∨ (s.nodes.length : Int) < W.getD 0 0
      · rw [if_pos q] at H; cases H
      · rw [if_neg q] at H
        obtain ⟨k, hk⟩ : ∃ k : Nat, W.getD 0 0 = (k : Int) + 1 := ⟨(W.getD 0 0 - 1).toNat, by omega⟩
        have hkn : k < s.nodes.length := by omega
        rw [hk, show ((k : Int) + 1 - 1).toNat = k by omega] at H
        have hat : s.nodes.getD k default = s.at' k := rfl
        rw [hat] at H
        by_cases hb : beforeE last (s.at' k).1 = true
        · rw [if_pos hb] at H
          cases hs : stepW (s.at' k).2 0 ((k : Int) + 1) W with
          | none => rw [hs] at H; cases H
          | some W' =>
            rw [hs] at H
            have h8 := hh k hkn
            have hst := (stepW_iff (s.at' k).2 0 _ W (by have := h8.2; unfold Sk.h at this; omega) W').1 hs
            obtain ⟨p, p1, p2, p3, p4, p5⟩ := (joinF_iff s hh n W' (s.at' k).1 (by omega)).1 H
            refine ⟨k :: p, by simp [p1], ?_, ?_, ?_, ?_⟩
            · intro j hj
              rcases List.mem_cons.1 hj with rfl | r
              · exact hkn
              · exact p2 j r
            · refine List.pairwise_cons.2 ⟨fun j hj => ?_, p3⟩
              rw [Sk.eAt, Sk.eAt]
              exact p4 j hj
            · intro j hj
              rcases List.mem_cons.1 hj with rfl | r
              · exact hb
              · exact beforeS_trans hb (p4 j r)
            · intro l hl
              have h5 := p5 l hl
              have h3 := hst.2.2 l (by omega)
              by_cases e : l < s.h k
              · refine (chain_in e).2 ⟨?_, ?_⟩
                · have := hst.1 l e
                  rw [Nat.zero_add] at this
                  exact this
                · rw [h3, if_pos (by unfold Sk.h at e; omega)] at h5
                  exact h5
              · refine (chain_out e).2 ?_
                rw [h3, if_neg (by unfold Sk.h at e; omega)] at h5
                exact h5
        · rw [if_neg hb] at H; cases H
    · rintro ⟨p, p1, p2, p3, p4, p5⟩
      cases p with
      | nil => simp at p1
      | cons k p =>
        have hkn := p2 k (by simp)
        have h8 := hh k hkn
        have hk := ((chain_in (by omega)).1 (p5 0 (by omega))).1
        rw [if_neg (by omega), hk, show ((k : Int) + 1 - 1).toNat = k by omega]
        have hat : s.nodes.getD k default = s.at' k := rfl
        rw [hat, if_pos (p4 k (by simp))]
        have hlen : 0 + (s.at' k).2.length ≤ W.length := by have := h8.2; unfold Sk.h at this; omega
        obtain ⟨W', hW'⟩ : ∃ W' : List Int, W'.length = W.length ∧ ∀ j, j < W.length → W'.getD j 0 = if 0 ≤ j ∧ j < 0 + (s.at' k).2.length then (s.at' k).2.getD (j - 0) 0 else W.getD j 0 := by
          refine ⟨(List.range W.length).map (fun j => if 0 ≤ j ∧ j < 0 + (s.at' k).2.length then (s.at' k).2.getD (j - 0) 0 else W.getD j 0), by simp, fun j hj => ?_⟩
          simp [List.getD, hj]
        have hs := (stepW_iff (s.at' k).2 0 ((k : Int) + 1) W hlen W').2 ⟨fun j hj => ?_, hW'.1, hW'.2⟩
        · rw [hs]
          have p3' := List.pairwise_cons.1 p3
          refine (joinF_iff s hh n W' (s.at' k).1 (by omega)).2 ⟨p, by simpa using p1, fun j hj => p2 j (by simp [hj]), p3'.2, fun j hj => ?_, fun l hl => ?_⟩
          · have := p3'.1 j hj
            rw [Sk.eAt, Sk.eAt] at this
            exact this
          · rw [hW'.2 l (by omega)]
            by_cases e : l < s.h k
            · rw [if_pos (by unfold Sk.h at e; omega)]
              exact ((chain_in e).1 (p5 l hl)).2
            · rw [if_neg (by unfold Sk.h at e; omega)]
              exact (chain_out e).1 (p5 l hl)
        · rw [Nat.zero_add]
          have e : j < s.h k := hj
          exact ((chain_in e).1 (p5 j (by omega))).1

/-- A list may be. -/
structure Good (s : Sk) : Prop where
  few : s.nodes.length ≤ 4096
  head : s.head.length = 8
  may : ∀ k, k < s.nodes.length → mayE (s.at' k).1 = true
  high : ∀ k, k < s.nodes.length → 1 ≤ s.h k ∧ s.h k ≤ 8
  ones : Ones s.es
  link : Linked s s.ord
theorem Good.srt {s : Sk} (h : Good s) : Srt s.es s.ord := by
  have := orderF_srt s.es h.ones s.es.length (Nat.le_refl _)
  rw [Sk.es_len] at this
  exact this
theorem Good.mem {s : Sk} (h : Good s) (k : Nat) : k ∈ s.ord ↔ k < s.nodes.length := by
  have := orderF_mem s.es h.ones k
  rw [Sk.es_len] at this
  exact this
theorem Good.high8 {s : Sk} (h : Good s) (k : Nat) : s.h k ≤ 8 := by
  by_cases q : k < s.nodes.length
  · exact (h.high k q).2
  · simp [Sk.h, Sk.at', List.getD, q]
    exact Nat.zero_le _

/-- The program's Check. -/
def checkS (s : Sk) : Bool := decide (s.nodes.length ≤ 4096) && (decide (s.head.length = 8) && (s.nodes.all (fun nd => mayE nd.1 && reachP' nd.2.length) && joinF s.nodes s.nodes.length s.head default))
where reachP' (n : Nat) : Bool := decide (1 ≤ n ∧ n ≤ 8)
theorem before_default {a : En} (h : mayE a = true) : beforeE default a = true := by
  simp only [mayE, decide_eq_true_eq] at h
  have hk : a.key.toList ≠ [] := by
    intro e
    have h2 := congrArg List.length e
    rw [ByteArray.toList_eq] at h2
    have : a.key.size = 0 := by simpa using h2
    omega
  have e0 : (default : En).key.toList = [] := by rw [ByteArray.toList_eq]; rfl
  have : Op.bytesLess (default : En).key.toList a.key.toList = true := by
    rw [e0]
    cases q : a.key.toList with
    | nil => exact absurd q hk
    | cons x l => rfl
  simp [beforeE, this]
theorem checkS_iff (s : Sk) : checkS s = true ↔ Good s := by
  unfold checkS
  simp only [Bool.and_eq_true, decide_eq_true_eq, List.all_eq_true, checkS.reachP']
  constructor
  · rintro ⟨h1, h2, h3, h4⟩
    have hat : ∀ k, k < s.nodes.length → s.at' k ∈ s.nodes := by
      intro k hk
      simp [Sk.at', List.getD, hk]
    have hh : ∀ k, k < s.nodes.length → 1 ≤ s.h k ∧ s.h k ≤ 8 := fun k hk => (h3 _ (hat k hk)).2
    obtain ⟨p, p1, p2, p3, p4, p5⟩ := (joinF_iff s hh _ _ _ h2).1 h4
    have pc : ∀ k, k < s.nodes.length → k ∈ p := pigeon _ p (Srt.nodup p3) p2 (by omega)
    have hones : Ones s.es := by
      intro i j hi hj hne
      rw [Sk.es_len] at hi hj
      cases t : twin (eAt s.es i) (eAt s.es j)
      · rfl
      · exfalso
        have key : ∀ q : List Nat, Srt s.es q → i ∈ q → j ∈ q → False := by
          intro q
          induction q with
          | nil => intro _ hi; cases hi
          | cons a q ih =>
            intro hs hi hj
            have hs' := List.pairwise_cons.1 hs
            rcases List.mem_cons.1 hi with e1 | hi'
            · subst e1
              rcases List.mem_cons.1 hj with e2 | hj'
              · exact hne e2.symm
              · have := hs'.1 j hj'
                rw [twin_before t] at this
                cases this
            · rcases List.mem_cons.1 hj with e2 | hj'
              · subst e2
                have := hs'.1 i hi'
                rw [twin_before (twin_symm t)] at this
                cases this
              · exact ih hs'.2 hi' hj'
        exact key p p3 (pc i hi) (pc j hj)
    have ho : s.ord = p := by
      refine srt_unique s.es _ _ ?_ p3 (fun k => ?_)
      · have := orderF_srt s.es hones s.es.length (Nat.le_refl _)
        rw [Sk.es_len] at this
        exact this
      · have := orderF_mem s.es hones k
        rw [Sk.es_len] at this
        unfold Sk.ord
        rw [this]
        exact ⟨pc k, p2 k⟩
    refine ⟨h1, h2, fun k hk => (h3 _ (hat k hk)).1, hh, hones, ?_⟩
    rw [ho]
    exact p5
  · intro g
    refine ⟨g.few, g.head, ?_, ?_⟩
    · intro nd hnd
      obtain ⟨k, hk⟩ := List.mem_iff_getElem?.1 hnd
      have hk' := (List.getElem?_eq_some_iff.1 hk).1
      have e : s.at' k = nd := by simp [Sk.at', List.getD, hk]
      have a := g.may k hk'
      have b := g.high k hk'
      unfold Sk.h at b
      rw [e] at a b
      exact ⟨a, b⟩
    · refine (joinF_iff s g.high _ _ _ g.head).2 ⟨s.ord, ?_, fun k hk => (g.mem k).1 hk, g.srt, fun k hk => before_default (g.may k ((g.mem k).1 hk)), g.link⟩
      exact orderF_len _ _
end Go.Proofs.Ytekoniaobmapdab

/- Plain facts: what a version that is put makes of a list. -/
namespace Go.Proofs.Ytekoniaobmapdab
open Go.RowKit
set_option linter.unusedVariables false
set_option linter.unusedSimpArgs false

/-- On each level below i the way of the number L l is set to v. -/
def linkF (s : Sk) (L : Nat → Nat) (v : Int) : Nat → Sk
  | 0 => s
  | i + 1 => (linkF s L v i).set (L i) i v
def nextF (s : Sk) (L : Nat → Nat) (h : Nat) : List Int := (List.range h).map fun l => s.way (L l) l
def putF (s : Sk) (x : En) (L : Nat → Nat) (h : Nat) : Sk := (linkF s L ((s.nodes.length : Int) + 1) h).snoc x (nextF s L h)

theorem linkF_len (s : Sk) (L : Nat → Nat) (v : Int) : ∀ i, (linkF s L v i).nodes.length = s.nodes.length
  | 0 => rfl
  | i + 1 => by rw [linkF, Sk.set_len, linkF_len s L v i]
theorem linkF_es (s : Sk) (L : Nat → Nat) (v : Int) : ∀ i, (linkF s L v i).es = s.es
  | 0 => rfl
  | i + 1 => by rw [linkF, Sk.set_es, linkF_es s L v i]
theorem linkF_h (s : Sk) (L : Nat → Nat) (v : Int) (k : Nat) : ∀ i, (linkF s L v i).h k = s.h k
  | 0 => rfl
  | i + 1 => by rw [linkF, Sk.set_h, linkF_h s L v k i]
theorem linkF_hs (s : Sk) (L : Nat → Nat) (v : Int) : ∀ i, (linkF s L v i).hs = s.hs
  | 0 => rfl
  | i + 1 => by rw [linkF, Sk.set_hs, linkF_hs s L v i]
theorem linkF_head (s : Sk) (L : Nat → Nat) (v : Int) : ∀ i, (linkF s L v i).head.length = s.head.length
  | 0 => rfl
  | i + 1 => by rw [linkF, Sk.set_head, linkF_head s L v i]
theorem linkF_nx (s : Sk) (L : Nat → Nat) (v : Int) (k l : Nat) : ∀ i, (linkF s L v i).nx k l = if l < i ∧ L l = k + 1 ∧ k < s.nodes.length ∧ l < s.h k then v else s.nx k l
  | 0 => by rw [if_neg (by omega)]; rfl
  | i + 1 => by
    rw [linkF, Sk.set_nx, linkF_nx s L v k l i, linkF_len, linkF_h]
    by_cases e : l = i
    · subst e
      rw [if_neg (fun (q : l < l ∧ _) => absurd q.1 (Nat.lt_irrefl _))]
      by_cases c : L l = k + 1 ∧ k < s.nodes.length ∧ l < s.h k
      · rw [if_pos ⟨c.1, c.2.1, rfl, c.2.2⟩, if_pos ⟨by omega, c⟩]
      · rw [if_neg (fun q => c ⟨q.1, q.2.1, q.2.2.2⟩), if_neg (fun q => c q.2)]
    · rw [if_neg (fun q => e q.2.2.1)]
      by_cases c : L l = k + 1 ∧ k < s.nodes.length ∧ l < s.h k
      · by_cases d : l < i
        · rw [if_pos ⟨d, c⟩, if_pos ⟨by omega, c⟩]
        · rw [if_neg (fun q => d q.1), if_neg (fun q => d (by omega))]
      · rw [if_neg (fun q => c q.2), if_neg (fun q => c q.2)]
theorem linkF_hd (s : Sk) (L : Nat → Nat) (v : Int) (l : Nat) : ∀ i, (linkF s L v i).hd l = if l < i ∧ L l = 0 ∧ l < s.head.length then v else s.hd l
  | 0 => by rw [if_neg (by omega)]; rfl
  | i + 1 => by
    rw [linkF, Sk.set_hd, linkF_hd s L v l i, linkF_head]
    by_cases e : l = i
    · subst e
      rw [if_neg (fun (q : l < l ∧ _) => absurd q.1 (Nat.lt_irrefl _))]
      by_cases c : L l = 0 ∧ l < s.head.length
      · rw [if_pos ⟨c.1, rfl, c.2⟩, if_pos ⟨by omega, c⟩]
      · rw [if_neg (fun q => c ⟨q.1, q.2.2⟩), if_neg (fun q => c q.2)]
    · rw [if_neg (fun q => e q.2.1)]
      by_cases c : L l = 0 ∧ l < s.head.length
      · by_cases d : l < i
        · rw [if_pos ⟨d, c⟩, if_pos ⟨by omega, c⟩]
        · rw [if_neg (fun q => d q.1), if_neg (fun q => d (by omega))]
      · rw [if_neg (fun q => c q.2), if_neg (fun q => c q.2)]
/-- A level that is not linked yet is as it was. -/
theorem linkF_way (s : Sk) (L : Nat → Nat) (v : Int) (i a l : Nat) (h : i ≤ l) : (linkF s L v i).way a l = s.way a l := by
  cases a with
  | zero => simp only [Sk.way]; rw [linkF_hd, if_neg (by omega)]
  | succ k => simp only [Sk.way]; rw [linkF_nx, if_neg (by omega)]
theorem linkF_ways (s : Sk) (L : Nat → Nat) (v : Int) (i a : Nat) : ((linkF s L v i).ways a).length = (s.ways a).length := by
  cases a with
  | zero => exact linkF_head s L v i
  | succ k => exact linkF_h s L v k i

/-- What was put is in its place on each level. -/
theorem putF_good {s : Sk} {x : En} {L : Nat → Nat} {h : Nat} (g : Good s) (hx : mayE x = true) (h1 : 1 ≤ h) (h8 : h ≤ 8) (hL : ∀ l, l < 8 → CutAt s s.ord x l (L l)) (hn : s.nodes.length < 4096) (ht : ∀ k, k < s.nodes.length → twin (s.at' k).1 x = false) : Good (putF s x L h) := by
  have eL : (putF s x L h).nodes.length = s.nodes.length + 1 := by unfold putF; rw [Sk.snoc_len, linkF_len]
  have eE : (putF s x L h).es = s.es ++ [x] := by unfold putF; rw [Sk.snoc_es, linkF_es]
  have eA : ∀ k, k < s.nodes.length → (putF s x L h).at' k = (linkF s L ((s.nodes.length : Int) + 1) h).at' k := by
    intro k hk
    unfold putF
    rw [Sk.snoc_at _ _ _ _ (by rw [linkF_len]; exact hk)]
  have eLast : (putF s x L h).at' s.nodes.length = (x, nextF s L h) := by
    have := Sk.snoc_last (linkF s L ((s.nodes.length : Int) + 1) h) x (nextF s L h)
    rw [linkF_len] at this
    exact this
  have eh : ∀ k, k < s.nodes.length → (putF s x L h).h k = s.h k := by
    intro k hk
    unfold Sk.h
    rw [eA k hk]
    exact linkF_h s L _ k h
  have ehl : (putF s x L h).h s.nodes.length = h := by
    unfold Sk.h
    rw [eLast]
    simp [nextF]
  have en : ∀ k l, k < s.nodes.length → (putF s x L h).nx k l = if l < h ∧ L l = k + 1 ∧ l < s.h k then (s.nodes.length : Int) + 1 else s.nx k l := by
    intro k l hk
    have : (putF s x L h).nx k l = (linkF s L ((s.nodes.length : Int) + 1) h).nx k l := by
      unfold Sk.nx
      rw [eA k hk]
    rw [this, linkF_nx]
    by_cases c : l < h ∧ L l = k + 1 ∧ l < s.h k
    · rw [if_pos c, if_pos ⟨c.1, c.2.1, hk, c.2.2⟩]
    · rw [if_neg c, if_neg (fun q => c ⟨q.1, q.2.1, q.2.2.2⟩)]
  have enl : ∀ l, l < h → (putF s x L h).nx s.nodes.length l = s.way (L l) l := by
    intro l hl
    unfold Sk.nx
    rw [eLast]
    simp [nextF, List.getD, hl]
  have ehd : ∀ l, l < 8 → (putF s x L h).hd l = if l < h ∧ L l = 0 then (s.nodes.length : Int) + 1 else s.hd l := by
    intro l hl
    have : (putF s x L h).hd l = (linkF s L ((s.nodes.length : Int) + 1) h).hd l := rfl
    rw [this, linkF_hd]
    by_cases c : l < h ∧ L l = 0
    · rw [if_pos c, if_pos ⟨c.1, c.2, by rw [g.head]; exact hl⟩]
    · rw [if_neg c, if_neg (fun q => c ⟨q.1, q.2.1⟩)]
  have hones : Ones (s.es ++ [x]) := by
    intro i j hi hj hne
    simp only [List.length_append, List.length_cons, List.length_nil, Sk.es_len] at hi hj
    by_cases ci : i < s.es.length
    · rw [eAt_app _ _ _ ci]
      by_cases cj : j < s.es.length
      · rw [eAt_app _ _ _ cj]
        exact g.ones i j ci cj hne
      · obtain rfl : j = s.es.length := by rw [Sk.es_len] at cj ⊢; omega
        rw [eAt_last, Sk.eAt]
        exact ht i (by rw [← Sk.es_len]; exact ci)
    · obtain rfl : i = s.es.length := by rw [Sk.es_len] at ci ⊢; omega
      rw [eAt_last]
      have cj : j < s.es.length := by rw [Sk.es_len] at hne ⊢; omega
      rw [eAt_app _ _ _ cj, Sk.eAt]
      cases q : twin x (s.at' j).1
      · rfl
      · have := ht j (by rw [← Sk.es_len]; exact cj)
        rw [twin_symm q] at this
        cases this
  have hord : (putF s x L h).ord = s.ord.take (posF s.es x s.ord) ++ [s.nodes.length] ++ s.ord.drop (posF s.es x s.ord) := by
    unfold Sk.ord
    rw [eE, eL]
    have := orderF_snoc s.es x
    rw [Sk.es_len] at this
    exact this
  refine ⟨by omega, ?_, ?_, ?_, by rw [eE]; exact hones, ?_⟩
  · show (linkF s L ((s.nodes.length : Int) + 1) h).head.length = 8
    rw [linkF_head]; exact g.head
  · intro k hk
    rw [eL] at hk
    by_cases c : k < s.nodes.length
    · have e1 : ((putF s x L h).at' k).1 = (s.at' k).1 := by
        rw [← Sk.eAt, ← Sk.eAt, eE]
        exact eAt_app _ _ _ (by rw [Sk.es_len]; exact c)
      rw [e1]
      exact g.may k c
    · obtain rfl : k = s.nodes.length := by omega
      rw [eLast]
      exact hx
  · intro k hk
    rw [eL] at hk
    by_cases c : k < s.nodes.length
    · rw [eh k c]
      exact g.high k c
    · obtain rfl : k = s.nodes.length := by omega
      rw [ehl]
      exact ⟨h1, h8⟩
  · rw [hord]
    intro l hl
    have hsrt := g.srt
    generalize hA : s.ord.take (posF s.es x s.ord) = A
    generalize hB : s.ord.drop (posF s.es x s.ord) = B
    have hAB : s.ord = A ++ B := by rw [← hA, ← hB, List.take_append_drop]
    have hAb : ∀ k ∈ A, beforeE (s.at' k).1 x = true := by
      intro k hk
      rw [← hA] at hk
      have := posF_take s.es x s.ord k hk
      rw [Sk.eAt] at this
      exact this
    have hBb : ∀ k ∈ B, beforeE (s.at' k).1 x = false := by
      intro k hk
      rw [← hB] at hk
      have := posF_drop s.es x s.ord hsrt k hk
      rw [Sk.eAt] at this
      exact this
    have hlt : ∀ k, k ∈ A ++ B → k < s.nodes.length := fun k hk => (g.mem k).1 (by rw [hAB]; exact hk)
    have hlink := g.link l hl
    rw [hAB] at hlink
    have hnd : (A ++ B).Nodup := by rw [← hAB]; exact Srt.nodup hsrt
    by_cases cl : l < h
    · obtain ⟨P, R, ePR, hEnd, hPb, hRb⟩ := hL l hl
      rw [hAB] at ePR
      obtain ⟨R1, eA2, eR⟩ : ∃ R1, A = P ++ R1 ∧ R = R1 ++ B := by
        rcases List.append_eq_append_iff.1 ePR with ⟨a', e1, e2⟩ | ⟨c', e1, e2⟩
        · cases a' with
          | nil => exact ⟨[], by simpa using e1.symm, by simpa using e2.symm⟩
          | cons z a' =>
            exfalso
            have m1 := hPb z (by rw [e1]; simp)
            have m2 := hBb z (by rw [e2]; simp)
            rw [m1] at m2
            cases m2
        · exact ⟨c', e1, e2⟩
      have hR1 : ∀ k ∈ R1, ¬ l < s.h k := by
        intro k hk hl2
        have m1 := hRb k (by rw [eR]; simp [hk]) hl2
        have m2 := hAb k (by rw [eA2]; simp [hk])
        rw [m1] at m2
        cases m2
      rw [eA2, List.append_assoc] at hlink
      have hw := chain_way hlink hEnd
      rw [chain_skip R1 B _ hR1] at hw
      -- the rest behind the new node
      have hBnew : ∀ k ∈ B, s.h k = (putF s x L h).h k ∧ (l < s.h k → s.nx k l = (putF s x L h).nx k l) := by
        intro k hk
        have hkn := hlt k (by simp [hk])
        refine ⟨(eh k hkn).symm, fun hl2 => ?_⟩
        rw [en k l hkn, if_neg ?_]
        rintro ⟨_, q, _⟩
        rcases hEnd with ⟨z, _⟩ | ⟨P', j, e3, e4, _⟩
        · omega
        · have : k = j := by omega
          subst this
          have : k ∈ A := by rw [eA2, e3]; simp
          exact (List.nodup_append.1 hnd).2.2 k this k hk rfl
      have hB' : chainOK (putF s x L h).h (putF s x L h).nx l B (s.way (L l) l) := (chain_congr B _ hBnew).1 hw
      have hN : chainOK (putF s x L h).h (putF s x L h).nx l (R1 ++ s.nodes.length :: B) ((s.nodes.length : Int) + 1) := by
        refine (chain_skip R1 _ _ (fun k hk => ?_)).2 ((chain_in (by rw [ehl]; exact cl)).2 ⟨rfl, by rw [enl l cl]; exact hB'⟩)
        rw [eh k (hlt k (by rw [eA2]; simp [hk]))]
        exact hR1 k hk
      rw [eA2]
      have eJ : P ++ R1 ++ [s.nodes.length] ++ B = P ++ (R1 ++ s.nodes.length :: B) := by simp
      rw [eJ, ehd l hl]
      rcases hEnd with ⟨z, e3⟩ | ⟨P', j, e3, e4, e5⟩
      · subst e3
        rw [if_pos ⟨cl, z⟩]
        exact hN
      · rw [if_neg (by omega)]
        subst e3
        rw [List.append_assoc] at hlink ⊢
        have hjn : j < s.nodes.length := hlt j (by rw [eA2]; simp)
        refine chain_mid P' _ hlink e5 (eh j hjn).symm (fun k hk => ?_) ?_
        · have hkn := hlt k (by rw [eA2]; simp [hk])
          refine ⟨(eh k hkn).symm, fun hl2 => ?_⟩
          rw [en k l hkn, if_neg ?_]
          rintro ⟨_, q, _⟩
          have : k = j := by omega
          subst this
          rw [eA2] at hnd
          have h3 := (List.nodup_append.1 (List.nodup_append.1 (List.nodup_append.1 hnd).1).1).2.2 k hk k (by simp)
          exact h3 rfl
        · rw [en j l hjn, if_pos ⟨cl, e4, e5⟩]
          exact hN
    · have hcong : ∀ k ∈ A ++ B, s.h k = (putF s x L h).h k ∧ (l < s.h k → s.nx k l = (putF s x L h).nx k l) := by
        intro k hk
        have hkn := hlt k hk
        refine ⟨(eh k hkn).symm, fun hl2 => ?_⟩
        rw [en k l hkn, if_neg (fun q => cl q.1)]
      rw [ehd l hl, if_neg (fun q => cl q.1)]
      have h2 := (chain_congr (A ++ B) _ hcong).1 hlink
      clear hlink
      -- the new node is too low
      have key : ∀ (A : List Nat) (w : Int), chainOK (putF s x L h).h (putF s x L h).nx l (A ++ B) w → chainOK (putF s x L h).h (putF s x L h).nx l (A ++ [s.nodes.length] ++ B) w := by
        intro A
        induction A with
        | nil =>
          intro w hw
          exact (chain_out (by rw [ehl]; exact cl)).2 hw
        | cons a A ih =>
          intro w hw
          simp only [List.cons_append] at hw ⊢
          by_cases c : l < (putF s x L h).h a
          · have := (chain_in c).1 hw
            exact (chain_in c).2 ⟨this.1, ih _ this.2⟩
          · exact (chain_out c).2 (ih _ ((chain_out c).1 hw))
      exact key A _ h2
theorem putF_es (s : Sk) (x : En) (L : Nat → Nat) (h : Nat) : (putF s x L h).es = s.es ++ [x] := by unfold putF; rw [Sk.snoc_es, linkF_es]
theorem putF_hs (s : Sk) (x : En) (L : Nat → Nat) (h : Nat) : (putF s x L h).hs = s.hs ++ [h] := by
  have : (putF s x L h).hs = (linkF s L ((s.nodes.length : Int) + 1) h).hs ++ [(nextF s L h).length] := by
    simp [putF, Sk.snoc, Sk.hs]
  rw [this, linkF_hs]
  simp [nextF]
end Go.Proofs.Ytekoniaobmapdab

/- Two arrays of eight numbers, held against each other. -/
namespace Go.Proofs.Ytekoniaobmapdab
open Go.RowKit
set_option linter.unusedVariables false
set_option linter.unusedSimpArgs false

def arrI (L : List Int) : Array Value := (L.map (Value.int .i64)).toArray
theorem arrI_set (L : List Int) (l : Nat) (a : Int) : (arrI L).setIfInBounds l (.int .i64 a) = arrI (L.set l a) := by
  simp [arrI, List.map_set]
theorem arrI_get (L : List Int) (l : Nat) (h : l < L.length) : (arrI L)[l]? = some (.int .i64 (L.getD l 0)) := by
  simp [arrI, List.getD, h]
theorem part_i64 (w : World) (xs : Array Value) (j : Nat) (v : Value) (h : xs[j]? = some v) : (part 3 xs j).run Try.prog w = .ok v w := run_part_plain w (by kernel_rfl) h
theorem cells_i64 : Try.prog.cellsOf 3 = 1 := by kernel_rfl
theorem eqItems_ints (L M : List Int) (w : World) : ∀ is : List Nat, (∀ j ∈ is, j < L.length ∧ j < M.length) → (Op.eqItems 9999 3 1 (arrI L) (arrI M) is).run Try.prog w = .ok (is.all (fun j => L.getD j 0 == M.getD j 0)) w
  | [], _ => by simp [Op.eqItems]
  | j :: is, H => by
    have hj := H j (by simp)
    have p := part_i64 w (arrI L) j _ (arrI_get L j hj.1)
    have q := part_i64 w (arrI M) j _ (arrI_get M j hj.2)
    have e := run_equalIn_int w 9998 3 .i64 .i64 (L.getD j 0) (M.getD j 0) Try.underlying3
    have ih := eqItems_ints L M w is (fun i hi => H i (by simp [hi]))
    simp only [Op.eqItems, Sem.run_bind, Nat.mul_one, p, q, e, Result.andThen_ok]
    rw [List.all_cons]
    cases c : (L.getD j 0 == M.getD j 0)
    · simp only [Bool.not_false, if_true, Bool.false_and]
      rfl
    · simp only [Bool.not_true, Bool.false_eq_true, if_false, Bool.true_and]
      exact ih
set_option maxRecDepth 20000 in
theorem eq_eight (L M : List Int) (h1 : L.length = 8) (h2 : M.length = 8) (w : World) :
    (Op.equalIn 10000 130 (.agg (arrI L)) (.agg (arrI M))).run Try.prog w = .ok (decide (L = M)) w := by
  obtain ⟨i0, hi, _⟩ := info_some Try.info3
  have e := run_equalIn_array w 9999 (arrI L) (arrI M) Try.underlying130 hi
  refine e.trans ?_
  rw [cells_i64, eqItems_ints L M w _ (fun j hj => by simp at hj; omega)]
  congr 1
  rw [Bool.eq_iff_iff]
  simp only [List.all_eq_true, decide_eq_true_eq, List.mem_range, beq_iff_eq]
  constructor
  · intro h
    refine List.ext_getElem (by omega) (fun i a b => ?_)
    have := h i (by omega)
    simpa [List.getD, a, b] using this
  · rintro rfl j _
    rfl
end Go.Proofs.Ytekoniaobmapdab

/- make([]int, h), h up to 8; New, the program's and the document's. -/
namespace Go.Proofs.Ytekoniaobmapdab
open Go.RowKit
set_option linter.unusedVariables false
set_option linter.unusedSimpArgs false

def zeroC (h : Nat) : Array Value := arrI (List.replicate h 0)
theorem mk_ints (h : Nat) (hh : h ≤ 8) (w : World) : (Instr.makeSlice 81 (.int .i64 (h : Int)) (.int .i64 (h : Int))).run Try.prog w = .ok (.slice (some ⟨w.heap.size, 0, none⟩) h h) (w.alloc (.cells (zeroC h) 3)) := by
  have q0 : (Instr.makeSlice 81 (.int .i64 0) (.int .i64 0)).run Try.prog w = .ok (.slice (some ⟨w.heap.size, 0, none⟩) 0 0) (w.alloc (.cells #[] 3)) := by kernel_rfl
  have q1 : (Instr.makeSlice 81 (.int .i64 1) (.int .i64 1)).run Try.prog w = .ok (.slice (some ⟨w.heap.size, 0, none⟩) 1 1) (w.alloc (.cells #[.int .i64 0] 3)) := by kernel_rfl
  have q2 : (Instr.makeSlice 81 (.int .i64 2) (.int .i64 2)).run Try.prog w = .ok (.slice (some ⟨w.heap.size, 0, none⟩) 2 2) (w.alloc (.cells #[.int .i64 0, .int .i64 0] 3)) := by kernel_rfl
  have q3 : (Instr.makeSlice 81 (.int .i64 3) (.int .i64 3)).run Try.prog w = .ok (.slice (some ⟨w.heap.size, 0, none⟩) 3 3) (w.alloc (.cells #[.int .i64 0, .int .i64 0, .int .i64 0] 3)) := by kernel_rfl
  have q4 : (Instr.makeSlice 81 (.int .i64 4) (.int .i64 4)).run Try.prog w = .ok (.slice (some ⟨w.heap.size, 0, none⟩) 4 4) (w.alloc (.cells #[.int .i64 0, .int .i64 0, .int .i64 0, .int .i64 0] 3)) := by kernel_rfl
  have q5 : (Instr.makeSlice 81 (.int .i64 5) (.int .i64 5)).run Try.prog w = .ok (.slice (some ⟨w.heap.size, 0, none⟩) 5 5) (w.alloc (.cells #[.int .i64 0, .int .i64 0, .int .i64 0, .int .i64 0, .int .i64 0] 3)) := by kernel_rfl
  have q6 : (Instr.makeSlice 81 (.int .i64 6) (.int .i64 6)).run Try.prog w = .ok (.slice (some ⟨w.heap.size, 0, none⟩) 6 6) (w.alloc (.cells #[.int .i64 0, .int .i64 0, .int .i64 0, .int .i64 0, .int .i64 0, .int .i64 0] 3)) := by kernel_rfl
  have q7 : (Instr.makeSlice 81 (.int .i64 7) (.int .i64 7)).run Try.prog w = .ok (.slice (some ⟨w.heap.size, 0, none⟩) 7 7) (w.alloc (.cells #[.int .i64 0, .int .i64 0, .int .i64 0, .int .i64 0, .int .i64 0, .int .i64 0, .int .i64 0] 3)) := by kernel_rfl
  have q8 : (Instr.makeSlice 81 (.int .i64 8) (.int .i64 8)).run Try.prog w = .ok (.slice (some ⟨w.heap.size, 0, none⟩) 8 8) (w.alloc (.cells #[.int .i64 0, .int .i64 0, .int .i64 0, .int .i64 0, .int .i64 0, .int .i64 0, .int .i64 0, .int .i64 0] 3)) := by kernel_rfl
  have : h = 0 ∨ h = 1 ∨ h = 2 ∨ h = 3 ∨ h = 4 ∨ h = 5 ∨ h = 6 ∨ h = 7 ∨ h = 8 := by omega
  rcases this with rfl | rfl | rfl | rfl | rfl | rfl | rfl | rfl | rfl
  · exact q0
  · exact q1
  · exact q2
  · exact q3
  · exact q4
  · exact q5
  · exact q6
  · exact q7
  · exact q8
theorem flat_irow : ∀ l : List Int, (l.map irow).flatten = l.map (Value.int .i64)
  | [] => rfl
  | x :: l => by simp [irow, flat_irow l]
theorem own_made (w : World) (h : Nat) (hh : h ≤ 8) : OwnR (w.alloc (.cells (zeroC h) 3)) w.heap.size 3 1 (.slice (some ⟨w.heap.size, 0, none⟩) h h) ((List.replicate h (0 : Int)).map irow) := by
  refine ⟨fun cs hc => by obtain ⟨n, _, rfl⟩ := List.mem_map.1 hc; rfl, ?_⟩
  have := World.ownsRow_lit (base := w.heap.size) (e := 3) (size := 1) w (zeroC h) h (Nat.le_refl _) (by unfold maxLen; omega) (by simp [zeroC, arrI])
  rw [flat_irow, List.length_map, List.length_replicate]
  have e : (zeroC h).toList = (List.replicate h (0 : Int)).map (Value.int .i64) := by simp [zeroC, arrI]
  rw [e] at this
  exact this
def emptyS : Sk := ⟨[], List.replicate 8 0⟩
theorem emptyS_good : Good emptyS := by
  refine ⟨by simp [emptyS], by simp [emptyS], (fun k hk => by simp [emptyS] at hk), (fun k hk => by simp [emptyS] at hk), (fun i j hi => by simp [emptyS, Sk.es] at hi), fun l hl => ?_⟩
  show chainOK _ _ l [] _
  unfold chainOK
  show (List.replicate 8 (0 : Int)).getD l 0 = 0
  exact rep_get l
set_option maxRecDepth 100000 in
theorem new_any (w : World) : Calls Try.prog 71 #[] w fun e w' => ∃ a c a2 c2, e = .returned (.agg #[.slice a 0 c, .slice a2 8 c2]) ∧ Hid (OwnSk w' w.heap.size 139 (.slice a 0 c) (.slice a2 8 c2) emptyS []) ∧ Hid (Below w.heap.size w w') := by
  have hmk := mk_ints 8 (by omega)
  have hmk' : ∀ w : World, (Instr.makeSlice 81 (.int .i64 8) (.int .i64 8)).run Try.prog w = .ok (.slice (some ⟨w.heap.size, 0, none⟩) 8 8) (w.alloc (.cells (zeroC 8) 3)) := hmk
  clear hmk
  have HO : Hid (OwnR ((w.alloc (.cells #[.slice none 0 0, .slice (some ⟨w.heap.size + 1, 0, none⟩) 8 8] 116)).alloc (.cells (zeroC 8) 3)) w.heap.size 3 1 (.slice (some ⟨w.heap.size + 1, 0, none⟩) 8 8) ((List.replicate 8 (0 : Int)).map irow)) := by
    have := own_made (w.alloc (.cells #[.slice none 0 0, .slice (some ⟨w.heap.size + 1, 0, none⟩) 8 8] 116)) 8 (by omega)
    have e : (w.alloc (.cells #[.slice none 0 0, .slice (some ⟨w.heap.size + 1, 0, none⟩) 8 8] 116)).heap.size = w.heap.size + 1 := by simp
    rw [e] at this
    exact this.mono (by omega)
  go_enter Try.func71, Try.ntmps71
  go_wp2_with fail
  refine bodyPost_ret (results_st rfl (.inl rfl) _ _ rfl (blk_up (blk_new w _) (up_alloc _ _))) rfl ?_
  refine ⟨_, _, _, _, rfl, ⟨rfl, OwnR.nil _ _ _ _, HO.out, (fun k p hk => by simp at hk), by simp⟩, up_al (up_al (Below.refl _ _) _) _⟩
end Go.Proofs.Ytekoniaobmapdab
