/- Plain facts: what a version that is put makes of a list. -/
import Derived.Test.YtfnddbglopoghaaMChk
import Derived.Test.YtfnddbglopoghaaPAdd
namespace Go.Proofs.Ytfnddbglopoghaa
open Go.RowKit
set_option linter.unusedVariables false
set_option linter.unusedSimpArgs false

/-- On each level below i the way of the number L l is set to v. -/
def linkF (s : Sk) (L : Nat → Nat) (v : Int) : Nat → Sk
  | 0 => s
  | i + 1 => (linkF s L v i).set (L i) i v
def nextF (s : Sk) (L : Nat → Nat) (h : Nat) : List Int := (List.range h).map fun l => s.way (L l) l
def putF (s : Sk) (x : En) (L : Nat → Nat) (h : Nat) : Sk := (linkF s L ((s.nodes.length : Int) + 1) h).snoc x (nextF s L h)

theorem linkF_len (s : Sk) (L : Nat → Nat) (v : Int) : ∀ i, (linkF s L v i).nodes.length = s.nodes.length
  | 0 => rfl
  | i + 1 => by rw [linkF, Sk.set_len, linkF_len s L v i]
theorem linkF_es (s : Sk) (L : Nat → Nat) (v : Int) : ∀ i, (linkF s L v i).es = s.es
  | 0 => rfl
  | i + 1 => by rw [linkF, Sk.set_es, linkF_es s L v i]
theorem linkF_h (s : Sk) (L : Nat → Nat) (v : Int) (k : Nat) : ∀ i, (linkF s L v i).h k = s.h k
  | 0 => rfl
  | i + 1 => by rw [linkF, Sk.set_h, linkF_h s L v k i]
theorem linkF_hs (s : Sk) (L : Nat → Nat) (v : Int) : ∀ i, (linkF s L v i).hs = s.hs
  | 0 => rfl
  | i + 1 => by rw [linkF, Sk.set_hs, linkF_hs s L v i]
theorem linkF_head (s : Sk) (L : Nat → Nat) (v : Int) : ∀ i, (linkF s L v i).head.length = s.head.length
  | 0 => rfl
  | i + 1 => by rw [linkF, Sk.set_head, linkF_head s L v i]
theorem linkF_nx (s : Sk) (L : Nat → Nat) (v : Int) (k l : Nat) : ∀ i, (linkF s L v i).nx k l = if l < i ∧ L l = k + 1 ∧ k < s.nodes.length ∧ l < s.h k then v else s.nx k l
  | 0 => by rw [if_neg (by omega)]; rfl
  | i + 1 => by
    rw [linkF, Sk.set_nx, linkF_nx s L v k l i, linkF_len, linkF_h]
    by_cases e : l = i
    · subst e
      rw [if_neg (fun (q : l < l ∧ _) => absurd q.1 (Nat.lt_irrefl _))]
      by_cases c : L l = k + 1 ∧ k < s.nodes.length ∧ l < s.h k
      · rw [if_pos ⟨c.1, c.2.1, rfl, c.2.2⟩, if_pos ⟨by omega, c⟩]
      · rw [if_neg (fun q => c ⟨q.1, q.2.1, q.2.2.2⟩), if_neg (fun q => c q.2)]
    · rw [if_neg (fun q => e q.2.2.1)]
      by_cases c : L l = k + 1 ∧ k < s.nodes.length ∧ l < s.h k
      · by_cases d : l < i
        · rw [if_pos ⟨d, c⟩, if_pos ⟨by omega, c⟩]
        · rw [if_neg (fun q => d q.1), if_neg (fun q => d (by omega))]
      · rw [if_neg (fun q => c q.2), if_neg (fun q => c q.2)]
theorem linkF_hd (s : Sk) (L : Nat → Nat) (v : Int) (l : Nat) : ∀ i, (linkF s L v i).hd l = if l < i ∧ L l = 0 ∧ l < s.head.length then v else s.hd l
  | 0 => by rw [if_neg (by omega)]; rfl
  | i + 1 => by
    rw [linkF, Sk.set_hd, linkF_hd s L v l i, linkF_head]
    by_cases e : l = i
    · subst e
      rw [if_neg (fun (q : l < l ∧ _) => absurd q.1 (Nat.lt_irrefl _))]
      by_cases c : L l = 0 ∧ l < s.head.length
      · rw [if_pos ⟨c.1, rfl, c.2⟩, if_pos ⟨by omega, c⟩]
      · rw [if_neg (fun q => c ⟨q.1, q.2.2⟩), if_neg (fun q => c q.2)]
    · rw [if_neg (fun q => e q.2.1)]
      by_cases c : L l = 0 ∧ l < s.head.length
      · by_cases d : l < i
        · rw [if_pos ⟨d, c⟩, if_pos ⟨by omega, c⟩]
        · rw [if_neg (fun q => d q.1), if_neg (fun q => d (by omega))]
      · rw [if_neg (fun q => c q.2), if_neg (fun q => c q.2)]
/-- A level that is not linked yet is as it was. -/
theorem linkF_way (s : Sk) (L : Nat → Nat) (v : Int) (i a l : Nat) (h : i ≤ l) : (linkF s L v i).way a l = s.way a l := by
  cases a with
  | zero => simp only [Sk.way]; rw [linkF_hd, if_neg (by omega)]
  | succ k => simp only [Sk.way]; rw [linkF_nx, if_neg (by omega)]
theorem linkF_ways (s : Sk) (L : Nat → Nat) (v : Int) (i a : Nat) : ((linkF s L v i).ways a).length = (s.ways a).length := by
  cases a with
  | zero => exact linkF_head s L v i
  | succ k => exact linkF_h s L v k i

/-- What was put is in its place on each level. -/
theorem putF_good {s : Sk} {x : En} {L : Nat → Nat} {h : Nat} (g : Good s) (hx : mayE x = true) (h1 : 1 ≤ h) (h8 : h ≤ 8) (hL : ∀ l, l < 8 → CutAt s s.ord x l (L l)) (hn : s.nodes.length < 4096) (ht : ∀ k, k < s.nodes.length → twin (s.at' k).1 x = false) : Good (putF s x L h) := by
  have eL : (putF s x L h).nodes.length = s.nodes.length + 1 := by unfold putF; rw [Sk.snoc_len, linkF_len]
  have eE : (putF s x L h).es = s.es ++ [x] := by unfold putF; rw [Sk.snoc_es, linkF_es]
  have eA : ∀ k, k < s.nodes.length → (putF s x L h).at' k = (linkF s L ((s.nodes.length : Int) + 1) h).at' k := by
    intro k hk
    unfold putF
    rw [Sk.snoc_at _ _ _ _ (by rw [linkF_len]; exact hk)]
  have eLast : (putF s x L h).at' s.nodes.length = (x, nextF s L h) := by
    have := Sk.snoc_last (linkF s L ((s.nodes.length : Int) + 1) h) x (nextF s L h)
    rw [linkF_len] at this
    exact this
  have eh : ∀ k, k < s.nodes.length → (putF s x L h).h k = s.h k := by
    intro k hk
    unfold Sk.h
    rw [eA k hk]
    exact linkF_h s L _ k h
  have ehl : (putF s x L h).h s.nodes.length = h := by
    unfold Sk.h
    rw [eLast]
    simp [nextF]
  have en : ∀ k l, k < s.nodes.length → (putF s x L h).nx k l = if l < h ∧ L l = k + 1 ∧ l < s.h k then (s.nodes.length : Int) + 1 else s.nx k l := by
    intro k l hk
    have : (putF s x L h).nx k l = (linkF s L ((s.nodes.length : Int) + 1) h).nx k l := by
      unfold Sk.nx
      rw [eA k hk]
    rw [this, linkF_nx]
    by_cases c : l < h ∧ L l = k + 1 ∧ l < s.h k
    · rw [if_pos c, if_pos ⟨c.1, c.2.1, hk, c.2.2⟩]
    · rw [if_neg c, if_neg (fun q => c ⟨q.1, q.2.1, q.2.2.2⟩)]
  have enl : ∀ l, l < h → (putF s x L h).nx s.nodes.length l = s.way (L l) l := by
    intro l hl
    unfold Sk.nx
    rw [eLast]
    simp [nextF, List.getD, hl]
  have ehd : ∀ l, l < 8 → (putF s x L h).hd l = if l < h ∧ L l = 0 then (s.nodes.length : Int) + 1 else s.hd l := by
    intro l hl
    have : (putF s x L h).hd l = (linkF s L ((s.nodes.length : Int) + 1) h).hd l := rfl
    rw [this, linkF_hd]
    by_cases c : l < h ∧ L l = 0
    · rw [if_pos c, if_pos ⟨c.1, c.2, by rw [g.head]; exact hl⟩]
    · rw [if_neg c, if_neg (fun q => c ⟨q.1, q.2.1⟩)]
  have hones : Ones (s.es ++ [x]) := by
    intro i j hi hj hne
    simp only [List.length_append, List.length_cons, List.length_nil, Sk.es_len] at hi hj
    by_cases ci : i < s.es.length
    · rw [eAt_app _ _ _ ci]
      by_cases cj : j < s.es.length
      · rw [eAt_app _ _ _ cj]
        exact g.ones i j ci cj hne
      · obtain rfl : j = s.es.length := by rw [Sk.es_len] at cj ⊢; omega
        rw [eAt_last, Sk.eAt]
        exact ht i (by rw [← Sk.es_len]; exact ci)
    · obtain rfl : i = s.es.length := by rw [Sk.es_len] at ci ⊢; omega
      rw [eAt_last]
      have cj : j < s.es.length := by rw [Sk.es_len] at hne ⊢; omega
      rw [eAt_app _ _ _ cj, Sk.eAt]
      cases q : twin x (s.at' j).1
      · rfl
      · have := ht j (by rw [← Sk.es_len]; exact cj)
        rw [twin_symm q] at this
        cases this
  have hord : (putF s x L h).ord = s.ord.take (posF s.es x s.ord) ++ [s.nodes.length] ++ s.ord.drop (posF s.es x s.ord) := by
    unfold Sk.ord
    rw [eE, eL]
    have := orderF_snoc s.es x
    rw [Sk.es_len] at this
    exact this
  refine ⟨by omega, ?_, ?_, ?_, by rw [eE]; exact hones, ?_⟩
  · show (linkF s L ((s.nodes.length : Int) + 1) h).head.length = 8
    rw [linkF_head]; exact g.head
  · intro k hk
    rw [eL] at hk
    by_cases c : k < s.nodes.length
    · have e1 : ((putF s x L h).at' k).1 = (s.at' k).1 := by
        rw [← Sk.eAt, ← Sk.eAt, eE]
        exact eAt_app _ _ _ (by rw [Sk.es_len]; exact c)
      rw [e1]
      exact g.may k c
    · obtain rfl : k = s.nodes.length := by omega
      rw [eLast]
      exact hx
  · intro k hk
    rw [eL] at hk
    by_cases c : k < s.nodes.length
    · rw [eh k c]
      exact g.high k c
    · obtain rfl : k = s.nodes.length := by omega
      rw [ehl]
      exact ⟨h1, h8⟩
  · rw [hord]
    intro l hl
    have hsrt := g.srt
    generalize hA : s.ord.take (posF s.es x s.ord) = A
    generalize hB : s.ord.drop (posF s.es x s.ord) = B
    have hAB : s.ord = A ++ B := by rw [← hA, ← hB, List.take_append_drop]
    have hAb : ∀ k ∈ A, beforeE (s.at' k).1 x = true := by
      intro k hk
      rw [← hA] at hk
      have := posF_take s.es x s.ord k hk
      rw [Sk.eAt] at this
      exact this
    have hBb : ∀ k ∈ B, beforeE (s.at' k).1 x = false := by
      intro k hk
      rw [← hB] at hk
      have := posF_drop s.es x s.ord hsrt k hk
      rw [Sk.eAt] at this
      exact this
    have hlt : ∀ k, k ∈ A ++ B → k < s.nodes.length := fun k hk => (g.mem k).1 (by rw [hAB]; exact hk)
    have hlink := g.link l hl
    rw [hAB] at hlink
    have hnd : (A ++ B).Nodup := by rw [← hAB]; exact Srt.nodup hsrt
    by_cases cl : l < h
    · obtain ⟨P, R, ePR, hEnd, hPb, hRb⟩ := hL l hl
      rw [hAB] at ePR
      obtain ⟨R1, eA2, eR⟩ : ∃ R1, A = P ++ R1 ∧ R = R1 ++ B := by
        rcases List.append_eq_append_iff.1 ePR with ⟨a', e1, e2⟩ | ⟨c', e1, e2⟩
        · cases a' with
          | nil => exact ⟨[], by simpa using e1.symm, by simpa using e2.symm⟩
          | cons z a' =>
            exfalso
            have m1 := hPb z (by rw [e1]; simp)
            have m2 := hBb z (by rw [e2]; simp)
            rw [m1] at m2
            cases m2
        · exact ⟨c', e1, e2⟩
      have hR1 : ∀ k ∈ R1, ¬ l < s.h k := by
        intro k hk hl2
        have m1 := hRb k (by rw [eR]; simp [hk]) hl2
        have m2 := hAb k (by rw [eA2]; simp [hk])
        rw [m1] at m2
        cases m2
      rw [eA2, List.append_assoc] at hlink
      have hw := chain_way hlink hEnd
      rw [chain_skip R1 B _ hR1] at hw
      -- the rest behind the new node
      have hBnew : ∀ k ∈ B, s.h k = (putF s x L h).h k ∧ (l < s.h k → s.nx k l = (putF s x L h).nx k l) := by
        intro k hk
        have hkn := hlt k (by simp [hk])
        refine ⟨(eh k hkn).symm, fun hl2 => ?_⟩
        rw [en k l hkn, if_neg ?_]
        rintro ⟨_, q, _⟩
        rcases hEnd with ⟨z, _⟩ | ⟨P', j, e3, e4, _⟩
        · omega
        · have : k = j := by omega
          subst this
          have : k ∈ A := by rw [eA2, e3]; simp
          exact (List.nodup_append.1 hnd).2.2 k this k hk rfl
      have hB' : chainOK (putF s x L h).h (putF s x L h).nx l B (s.way (L l) l) := (chain_congr B _ hBnew).1 hw
      have hN : chainOK (putF s x L h).h (putF s x L h).nx l (R1 ++ s.nodes.length :: B) ((s.nodes.length : Int) + 1) := by
        refine (chain_skip R1 _ _ (fun k hk => ?_)).2 ((chain_in (by rw [ehl]; exact cl)).2 ⟨rfl, by rw [enl l cl]; exact hB'⟩)
        rw [eh k (hlt k (by rw [eA2]; simp [hk]))]
        exact hR1 k hk
      rw [eA2]
      have eJ : P ++ R1 ++ [s.nodes.length] ++ B = P ++ (R1 ++ s.nodes.length :: B) := by simp
      rw [eJ, ehd l hl]
      rcases hEnd with ⟨z, e3⟩ | ⟨P', j, e3, e4, e5⟩
      · subst e3
        rw [if_pos ⟨cl, z⟩]
        exact hN
      · rw [if_neg (by omega)]
        subst e3
        rw [List.append_assoc] at hlink ⊢
        have hjn : j < s.nodes.length := hlt j (by rw [eA2]; simp)
        refine chain_mid P' _ hlink e5 (eh j hjn).symm (fun k hk => ?_) ?_
        · have hkn := hlt k (by rw [eA2]; simp [hk])
          refine ⟨(eh k hkn).symm, fun hl2 => ?_⟩
          rw [en k l hkn, if_neg ?_]
          rintro ⟨_, q, _⟩
          have : k = j := by omega
          subst this
          rw [eA2] at hnd
          have h3 := (List.nodup_append.1 (List.nodup_append.1 (List.nodup_append.1 hnd).1).1).2.2 k hk k (by simp)
          exact h3 rfl
        · rw [en j l hjn, if_pos ⟨cl, e4, e5⟩]
          exact hN
    · have hcong : ∀ k ∈ A ++ B, s.h k = (putF s x L h).h k ∧ (l < s.h k → s.nx k l = (putF s x L h).nx k l) := by
        intro k hk
        have hkn := hlt k hk
        refine ⟨(eh k hkn).symm, fun hl2 => ?_⟩
        rw [en k l hkn, if_neg (fun q => cl q.1)]
      rw [ehd l hl, if_neg (fun q => cl q.1)]
      have h2 := (chain_congr (A ++ B) _ hcong).1 hlink
      clear hlink
      -- the new node is too low
      have key : ∀ (A : List Nat) (w : Int), chainOK (putF s x L h).h (putF s x L h).nx l (A ++ B) w → chainOK (putF s x L h).h (putF s x L h).nx l (A ++ [s.nodes.length] ++ B) w := by
        intro A
        induction A with
        | nil =>
          intro w hw
          exact (chain_out (by rw [ehl]; exact cl)).2 hw
        | cons a A ih =>
          intro w hw
          simp only [List.cons_append] at hw ⊢
          by_cases c : l < (putF s x L h).h a
          · have := (chain_in c).1 hw
            exact (chain_in c).2 ⟨this.1, ih _ this.2⟩
          · exact (chain_out c).2 (ih _ ((chain_out c).1 hw))
      exact key A _ h2
theorem putF_es (s : Sk) (x : En) (L : Nat → Nat) (h : Nat) : (putF s x L h).es = s.es ++ [x] := by unfold putF; rw [Sk.snoc_es, linkF_es]
theorem putF_hs (s : Sk) (x : En) (L : Nat → Nat) (h : Nat) : (putF s x L h).hs = s.hs ++ [h] := by
  have : (putF s x L h).hs = (linkF s L ((s.nodes.length : Int) + 1) h).hs ++ [(nextF s L h).length] := by
    simp [putF, Sk.snoc, Sk.hs]
  rw [this, linkF_hs]
  simp [nextF]
end Go.Proofs.Ytfnddbglopoghaa
