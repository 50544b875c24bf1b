/- Texts of layers 1 to 13, in this order. -/
import Derived.Test.YthiegmhplnbdlaaGreatG14
import Derived.Test.YthiegmhplnbdlaaGreatG07

namespace Go.Proofs.YthiegmhplnbdlaaGreat
open Go.RowKit
set_option linter.unusedVariables false
set_option linter.unusedSimpArgs false
def linkF (s : Sk) (L : Nat → Nat) (v : Int) : Nat → Sk
  | 0 => s
  | i + 1 => (linkF s L v i).set (L i) i v
def nextF (s : Sk) (L : Nat → Nat) (h : Nat) : List Int := (List.range h).map fun l => s.way (L l) l
def putF (s : Sk) (x : En) (L : Nat → Nat) (h : Nat) : Sk := (linkF s L ((s.nodes.length : Int) + 1) h).snoc x (nextF s L h)
theorem linkF_len (s : Sk) (L : Nat → Nat) (v : Int) : ∀ i, (linkF s L v i).nodes.length = s.nodes.length
  | 0 => rfl
  | i + 1 => by rw [linkF, Sk.set_len, linkF_len s L v i]
theorem linkF_es (s : Sk) (L : Nat → Nat) (v : Int) : ∀ i, (linkF s L v i).es = s.es
  | 0 => rfl
  | i + 1 => by rw [linkF, Sk.set_es, linkF_es s L v i]
theorem linkF_h (s : Sk) (L : Nat → Nat) (v : Int) (k : Nat) : ∀ i, (linkF s L v i).h k = s.h k
  | 0 => rfl
  | i + 1 => by rw [linkF, Sk.set_h, linkF_h s L v k i]
theorem linkF_hs (s : Sk) (L : Nat → Nat) (v : Int) : ∀ i, (linkF s L v i).hs = s.hs
  | 0 => rfl
  | i + 1 => by rw [linkF, Sk.set_hs, linkF_hs s L v i]
theorem linkF_head (s : Sk) (L : Nat → Nat) (v : Int) : ∀ i, (linkF s L v i).head.length = s.head.length
  | 0 => rfl
  | i + 1 => by rw [linkF, Sk.set_head, linkF_head s L v i]
theorem linkF_nx (s : Sk) (L : Nat → Nat) (v : Int) (k l : Nat) : ∀ i, (linkF s L v i).nx k l = if l < i ∧ L l = k + 1 ∧ k < s.nodes.length ∧ l < s.h k then v else s.nx k l
  | 0 => by rw [if_neg (by omega)]; rfl
  | i + 1 => by
    rw [linkF, Sk.set_nx, linkF_nx s L v k l i, linkF_len, linkF_h]
    by_cases e : l = i
    · subst e
      rw [if_neg (fun (q : l < l ∧ _) => absurd q.1 (Nat.lt_irrefl _))]
      by_cases c : L l = k + 1 ∧ k < s.nodes.length ∧ l < s.h k
      · rw [if_pos ⟨c.1, c.2.1, rfl, c.2.2⟩, if_pos ⟨by omega, c⟩]
      · rw [if_neg (fun q => c ⟨q.1, q.2.1, q.2.2.2⟩), if_neg (fun q => c q.2)]
    · rw [if_neg (fun q => e q.2.2.1)]
      by_cases c : L l = k + 1 ∧ k < s.nodes.length ∧ l < s.h k
      · by_cases d : l < i
        · rw [if_pos ⟨d, c⟩, if_pos ⟨by omega, c⟩]
        · rw [if_neg (fun q => d q.1), if_neg (fun q => d (by omega))]
      · rw [if_neg (fun q => c q.2), if_neg (fun q => c q.2)]
theorem linkF_hd (s : Sk) (L : Nat → Nat) (v : Int) (l : Nat) : ∀ i, (linkF s L v i).hd l = if l < i ∧ L l = 0 ∧ l < s.head.length then v else s.hd l
  | 0 => by rw [if_neg (by omega)]; rfl
  | i + 1 => by
    rw [linkF, Sk.set_hd, linkF_hd s L v l i, linkF_head]
    by_cases e : l = i
    · subst e
      rw [if_neg (fun (q : l < l ∧ _) => absurd q.1 (Nat.lt_irrefl _))]
      by_cases c : L l = 0 ∧ l < s.head.length
      · rw [if_pos ⟨c.1, rfl, c.2⟩, if_pos ⟨by omega, c⟩]
      · rw [if_neg (fun q => c ⟨q.1, q.2.2⟩), if_neg (fun q => c q.2)]
    · rw [if_neg (fun q => e q.2.1)]
      by_cases c : L l = 0 ∧ l < s.head.length
      · by_cases d : l < i
        · rw [if_pos ⟨d, c⟩, if_pos ⟨by omega, c⟩]
        · rw [if_neg (fun q => d q.1), if_neg (fun q => d (by omega))]
      · rw [if_neg (fun q => c q.2), if_neg (fun q => c q.2)]
theorem linkF_way (s : Sk) (L : Nat → Nat) (v : Int) (i a l : Nat) (h : i ≤ l) : (linkF s L v i).way a l = s.way a l := by
  cases a with
  | zero => simp only [Sk.way]; rw [linkF_hd, if_neg (by omega)]
  | succ k => simp only [Sk.way]; rw [linkF_nx, if_neg (by omega)]
theorem linkF_ways (s : Sk) (L : Nat → Nat) (v : Int) (i a : Nat) : ((linkF s L v i).ways a).length = (s.ways a).length := by
  cases a with
  | zero => exact linkF_head s L v i
  | succ k => exact linkF_h s L v k i
theorem putF_good {s : Sk} {x : En} {L : Nat → Nat} {h : Nat} (g : Good s) (hx : mayE x = true) (h1 : 1 ≤ h) (h8 : h ≤ 8) (hL : ∀ l, l < 8 → CutAt s s.ord x l (L l)) (hn : s.nodes.length < 4096) (ht : ∀ k, k < s.nodes.length → twin (s.at' k).1 x = false) : Good (putF s x L h) := by
  have eL : (putF s x L h).nodes.length = s.nodes.length + 1 := by unfold putF; rw [Sk.snoc_len, linkF_len]
  have eE : (putF s x L h).es = s.es ++ [x] := by unfold putF; rw [Sk.snoc_es, linkF_es]
  have eA : ∀ k, k < s.nodes.length → (putF s x L h).at' k = (linkF s L ((s.nodes.length : Int) + 1) h).at' k := by
    intro k hk
    unfold putF
    rw [Sk.snoc_at _ _ _ _ (by rw [linkF_len]; exact hk)]
  have eLast : (putF s x L h).at' s.nodes.length = (x, nextF s L h) := by
    have := Sk.snoc_last (linkF s L ((s.nodes.length : Int) + 1) h) x (nextF s L h)
    rw [linkF_len] at this
    exact this
  have eh : ∀ k, k < s.nodes.length → (putF s x L h).h k = s.h k := by
    intro k hk
    unfold Sk.h
    rw [eA k hk]
    exact linkF_h s L _ k h
  have ehl : (putF s x L h).h s.nodes.length = h := by
    unfold Sk.h
    rw [eLast]
    simp [nextF]
  have en : ∀ k l, k < s.nodes.length → (putF s x L h).nx k l = if l < h ∧ L l = k + 1 ∧ l < s.h k then (s.nodes.length : Int) + 1 else s.nx k l := by
    intro k l hk
    have : (putF s x L h).nx k l = (linkF s L ((s.nodes.length : Int) + 1) h).nx k l := by
      unfold Sk.nx
      rw [eA k hk]
    rw [this, linkF_nx]
    by_cases c : l < h ∧ L l = k + 1 ∧ l < s.h k
    · rw [if_pos c, if_pos ⟨c.1, c.2.1, hk, c.2.2⟩]
    · rw [if_neg c, if_neg (fun q => c ⟨q.1, q.2.1, q.2.2.2⟩)]
  have enl : ∀ l, l < h → (putF s x L h).nx s.nodes.length l = s.way (L l) l := by
    intro l hl
    unfold Sk.nx
    rw [eLast]
    simp [nextF, List.getD, hl]
  have ehd : ∀ l, l < 8 → (putF s x L h).hd l = if l < h ∧ L l = 0 then (s.nodes.length : Int) + 1 else s.hd l := by
    intro l hl
    have : (putF s x L h).hd l = (linkF s L ((s.nodes.length : Int) + 1) h).hd l := rfl
    rw [this, linkF_hd]
    by_cases c : l < h ∧ L l = 0
    · rw [if_pos c, if_pos ⟨c.1, c.2, by rw [g.head]; exact hl⟩]
    · rw [if_neg c, if_neg (fun q => c ⟨q.1, q.2.1⟩)]
  have hones : Ones (s.es ++ [x]) := by
    intro i j hi hj hne
    simp only [List.length_append, List.length_cons, List.length_nil, Sk.es_len] at hi hj
    by_cases ci : i < s.es.length
    · rw [eAt_app _ _ _ ci]
      by_cases cj : j < s.es.length
      · rw [eAt_app _ _ _ cj]
        exact g.ones i j ci cj hne
      · obtain rfl : j = s.es.length := by rw [Sk.es_len] at cj ⊢; omega
        rw [eAt_last, Sk.eAt]
        exact ht i (by rw [← Sk.es_len]; exact ci)
    · obtain rfl : i = s.es.length := by rw [Sk.es_len] at ci ⊢; omega
      rw [eAt_last]
      have cj : j < s.es.length := by rw [Sk.es_len] at hne ⊢; omega
      rw [eAt_app _ _ _ cj, Sk.eAt]
      cases q : twin x (s.at' j).1
      · rfl
      · have := ht j (by rw [← Sk.es_len]; exact cj)
        rw [twin_symm q] at this
        cases this
  have hord : (putF s x L h).ord = s.ord.take (posF s.es x s.ord) ++ [s.nodes.length] ++ s.ord.drop (posF s.es x s.ord) := by
    unfold Sk.ord
    rw [eE, eL]
    have := orderF_snoc s.es x
    rw [Sk.es_len] at this
    exact this
  refine ⟨by omega, ?_, ?_, ?_, by rw [eE]; exact hones, ?_⟩
  · show (linkF s L ((s.nodes.length : Int) + 1) h).head.length = 8
    rw [linkF_head]; exact g.head
  · intro k hk
    rw [eL] at hk
    by_cases c : k < s.nodes.length
    · have e1 : ((putF s x L h).at' k).1 = (s.at' k).1 := by
        rw [← Sk.eAt, ← Sk.eAt, eE]
        exact eAt_app _ _ _ (by rw [Sk.es_len]; exact c)
      rw [e1]
      exact g.may k c
    · obtain rfl : k = s.nodes.length := by omega
      rw [eLast]
      exact hx
  · intro k hk
    rw [eL] at hk
    by_cases c : k < s.nodes.length
    · rw [eh k c]
      exact g.high k c
    · obtain rfl : k = s.nodes.length := by omega
      rw [ehl]
      exact ⟨h1, h8⟩
  · rw [hord]
    intro l hl
    have hsrt := g.srt
    generalize hA : s.ord.take (posF s.es x s.ord) = A
    generalize hB : s.ord.drop (posF s.es x s.ord) = B
    have hAB : s.ord = A ++ B := by rw [← hA, ← hB, List.take_append_drop]
    have hAb : ∀ k ∈ A, beforeE (s.at' k).1 x = true := by
      intro k hk
      rw [← hA] at hk
      have := posF_take s.es x s.ord k hk
      rw [Sk.eAt] at this
      exact this
    have hBb : ∀ k ∈ B, beforeE (s.at' k).1 x = false := by
      intro k hk
      rw [← hB] at hk
      have := posF_drop s.es x s.ord hsrt k hk
      rw [Sk.eAt] at this
      exact this
    have hlt : ∀ k, k ∈ A ++ B → k < s.nodes.length := fun k hk => (g.mem k).1 (by rw [hAB]; exact hk)
    have hlink := g.link l hl
    rw [hAB] at hlink
    have hnd : (A ++ B).Nodup := by rw [← hAB]; exact Srt.nodup hsrt
    by_cases cl : l < h
    · obtain ⟨P, R, ePR, hEnd, hPb, hRb⟩ := hL l hl
      rw [hAB] at ePR
      obtain ⟨R1, eA2, eR⟩ : ∃ R1, A = P ++ R1 ∧ R = R1 ++ B := by
        rcases List.append_eq_append_iff.1 ePR with ⟨a', e1, e2⟩ | ⟨c', e1, e2⟩
        · cases a' with
          | nil => exact ⟨[], by simpa using e1.symm, by simpa using e2.symm⟩
          | cons z a' =>
            exfalso
            have m1 := hPb z (by rw [e1]; simp)
            have m2 := hBb z (by rw [e2]; simp)
            rw [m1] at m2
            cases m2
        · exact ⟨c', e1, e2⟩
      have hR1 : ∀ k ∈ R1, ¬ l < s.h k := by
        intro k hk hl2
        have m1 := hRb k (by rw [eR]; simp [hk]) hl2
        have m2 := hAb k (by rw [eA2]; simp [hk])
        rw [m1] at m2
        cases m2
      rw [eA2, List.append_assoc] at hlink
      have hw := chain_way hlink hEnd
      rw [chain_skip R1 B _ hR1] at hw
      have hBnew : ∀ k ∈ B, s.h k = (putF s x L h).h k ∧ (l < s.h k → s.nx k l = (putF s x L h).nx k l) := by
        intro k hk
        have hkn := hlt k (by simp [hk])
        refine ⟨(eh k hkn).symm, fun hl2 => ?_⟩
        rw [en k l hkn, if_neg ?_]
        rintro ⟨_, q, _⟩
        rcases hEnd with ⟨z, _⟩ | ⟨P', j, e3, e4, _⟩
        · omega
        · have : k = j := by omega
          subst this
          have : k ∈ A := by rw [eA2, e3]; simp
          exact (List.nodup_append.1 hnd).2.2 k this k hk rfl
      have hB' : chainOK (putF s x L h).h (putF s x L h).nx l B (s.way (L l) l) := (chain_congr B _ hBnew).1 hw
      have hN : chainOK (putF s x L h).h (putF s x L h).nx l (R1 ++ s.nodes.length :: B) ((s.nodes.length : Int) + 1) := by
        refine (chain_skip R1 _ _ (fun k hk => ?_)).2 ((chain_in (by rw [ehl]; exact cl)).2 ⟨rfl, by rw [enl l cl]; exact hB'⟩)
        rw [eh k (hlt k (by rw [eA2]; simp [hk]))]
        exact hR1 k hk
      rw [eA2]
      have eJ : P ++ R1 ++ [s.nodes.length] ++ B = P ++ (R1 ++ s.nodes.length :: B) := by simp
      rw [eJ, ehd l hl]
      rcases hEnd with ⟨z, e3⟩ | ⟨P', j, e3, e4, e5⟩
      · subst e3
        rw [if_pos ⟨cl, z⟩]
        exact hN
      · rw [if_neg (by omega)]
        subst e3
        rw [List.append_assoc] at hlink ⊢
        have hjn : j < s.nodes.length := hlt j (by rw [eA2]; simp)
        refine chain_mid P' _ hlink e5 (eh j hjn).symm (fun k hk => ?_) ?_
        · have hkn := hlt k (by rw [eA2]; simp [hk])
          refine ⟨(eh k hkn).symm, fun hl2 => ?_⟩
          rw [en k l hkn, if_neg ?_]
          rintro ⟨_, q, _⟩
          have : k = j := by omega
          subst this
          rw [eA2] at hnd
          have h3 := (List.nodup_append.1 (List.nodup_append.1 (List.nodup_append.1 hnd).1).1).2.2 k hk k (by simp)
          exact h3 rfl
        · rw [en j l hjn, if_pos ⟨cl, e4, e5⟩]
          exact hN
    · have hcong : ∀ k ∈ A ++ B, s.h k = (putF s x L h).h k ∧ (l < s.h k → s.nx k l = (putF s x L h).nx k l) := by
        intro k hk
        have hkn := hlt k hk
        refine ⟨(eh k hkn).symm, fun hl2 => ?_⟩
        rw [en k l hkn, if_neg (fun q => cl q.1)]
      rw [ehd l hl, if_neg (fun q => cl q.1)]
      have h2 := (chain_congr (A ++ B) _ hcong).1 hlink
      clear hlink
      have key : ∀ (A : List Nat) (w : Int), chainOK (putF s x L h).h (putF s x L h).nx l (A ++ B) w → chainOK (putF s x L h).h (putF s x L h).nx l (A ++ [s.nodes.length] ++ B) w := by
        intro A
        induction A with
        | nil =>
          intro w hw
          exact (chain_out (by rw [ehl]; exact cl)).2 hw
        | cons a A ih =>
          intro w hw
          simp only [List.cons_append] at hw ⊢
          by_cases c : l < (putF s x L h).h a
          · have := (chain_in c).1 hw
            exact (chain_in c).2 ⟨this.1, ih _ this.2⟩
          · exact (chain_out c).2 (ih _ ((chain_out c).1 hw))
      exact key A _ h2
theorem putF_es (s : Sk) (x : En) (L : Nat → Nat) (h : Nat) : (putF s x L h).es = s.es ++ [x] := by unfold putF; rw [Sk.snoc_es, linkF_es]
theorem putF_hs (s : Sk) (x : En) (L : Nat → Nat) (h : Nat) : (putF s x L h).hs = s.hs ++ [h] := by
  have : (putF s x L h).hs = (linkF s L ((s.nodes.length : Int) + 1) h).hs ++ [(nextF s L h).length] := by
    simp [putF, Sk.snoc, Sk.hs]
  rw [this, linkF_hs]
  simp [nextF]
end Go.Proofs.YthiegmhplnbdlaaGreat

namespace Go.Proofs.YthiegmhplnbdlaaGreat
open Go.RowKit
set_option linter.unusedVariables false
set_option linter.unusedSimpArgs false
set_option maxRecDepth 100000 in
theorem before_any (a b : En) (w : World) :
    Calls Tryz.prog 33 #[enV a, enV b] w fun e w' => e = .returned (.bool (beforeE a b)) ∧ w' = (w.alloc (enObj a)).alloc (enObj b) := by
  obtain ⟨ak, as1, ad, av⟩ := a
  obtain ⟨bk, bs, bd, bv⟩ := b
  unfold enV
  by_cases hk : ak.toList = bk.toList
  · have hk2 : (ak.toList == bk.toList) = true := by simp [hk]
    go_enter Tryz.func33, Tryz.ntmps33
    go_wp2
    all_goals
      go_ret
      refine ⟨?_, rfl⟩
      have hself : ∀ l : List UInt8, Op.bytesLess l l = false := by
        intro l
        induction l with
        | nil => rfl
        | cons x l ih => simp [Op.bytesLess, ih]
      simp_all [beforeE]
  · have hk2 : (ak.toList == bk.toList) = false := by simp [hk]
    go_enter Tryz.func33, Tryz.ntmps33
    go_wp2
    all_goals
      go_ret
      refine ⟨?_, rfl⟩
      simp_all [beforeE]
set_option maxHeartbeats 1000000 in
set_option maxRecDepth 100000 in
theorem mayStand_any (a : En) (w : World) :
    Calls Tryz.prog 29 #[enV a] w fun e w' => e = .returned (.bool (mayE a)) ∧ w' = w.alloc (enObj a) := by
  obtain ⟨ak, as1, ad, av⟩ := a
  unfold enV
  go_enter Tryz.func29, Tryz.ntmps29
  go_wp2
  all_goals
    go_ret
    refine ⟨?_, by simp_all [enObj]⟩
    have hav : av.toList = [] → (av.size : Int) ≤ 512 := by
      intro h
      have : av.size = 0 := by
        have h2 := congrArg List.length h
        rw [ByteArray.toList_eq] at h2
        simpa using h2
      omega
    simp_all [mayE]
    try first | omega | (intros; omega) | (cases hq : av.toList with | nil => simp [hav hq] | cons x l => simp) | (cases av.toList <;> simp; done)
def reachP (h : Int) : Bool := decide (1 ≤ h ∧ h ≤ 8)
set_option maxRecDepth 100000 in
theorem mayReach_any (h : Int) (w : World) :
    Calls Tryz.prog 30 #[.int .i64 h] w fun e w' => e = .returned (.bool (reachP h)) ∧ w' = w := by
  go_enter Tryz.func30, Tryz.ntmps30
  go_wp2
  all_goals
    go_ret
    refine ⟨?_, rfl⟩
    simp_all [reachP]
    try omega
end Go.Proofs.YthiegmhplnbdlaaGreat

namespace Go.Proofs.YthiegmhplnbdlaaGreat
open Go.RowKit
set_option linter.unusedVariables false
set_option linter.unusedSimpArgs false
theorem cut0 {s : Sk} {x : En} {a : Nat} (g : Good s) (h : CutAt s s.ord x 0 a) : ∃ A B, s.ord = A ++ B ∧ (∀ k ∈ A, beforeE (s.at' k).1 x = true) ∧ (∀ k ∈ B, beforeE (s.at' k).1 x = false) ∧ ((B = [] ∧ s.way a 0 = 0) ∨ ∃ k B', B = k :: B' ∧ s.way a 0 = (k : Int) + 1 ∧ k < s.nodes.length) := by
  obtain ⟨P, R, e, hE, hP, hR⟩ := h
  have hin : ∀ k ∈ R, 0 < s.h k := by
    intro k hk
    have : k < s.nodes.length := (g.mem k).1 (by rw [e]; simp [hk])
    have := (g.high k this).1
    omega
  have hl := g.link 0 (by omega)
  rw [e] at hl
  have hw := chain_way hl hE
  refine ⟨P, R, e, hP, fun k hk => hR k hk (hin k hk), ?_⟩
  cases R with
  | nil => exact .inl ⟨rfl, hw⟩
  | cons k B' =>
    have := (chain_in (hin k (by simp))).1 hw
    exact .inr ⟨k, B', rfl, this.1, (g.mem k).1 (by rw [e]; simp)⟩
theorem twin_shift {a b c : En} (h : beforeE a b = true) (t : twin b c = true) : beforeE a c = true := by
  simp only [twin, Bool.and_eq_true, beq_iff_eq, decide_eq_true_eq] at t
  simp only [beforeE, ← t.1, ← t.2] at *
  exact h
theorem cut_none {s : Sk} {x : En} {a : Nat} (g : Good s) (h : CutAt s s.ord x 0 a) (hz : s.way a 0 = 0) : ∀ k, k < s.nodes.length → twin (s.at' k).1 x = false := by
  obtain ⟨A, B, e, hA, hB, q⟩ := cut0 g h
  rcases q with ⟨rfl, _⟩ | ⟨k, B', _, hk, _⟩
  · intro k hk
    have : k ∈ A := by
      have := (g.mem k).2 hk
      rw [e] at this
      simpa using this
    cases t : twin (s.at' k).1 x
    · rfl
    · have := hA k this
      rw [twin_before t] at this
      cases this
  · omega
theorem cut_some {s : Sk} {x : En} {a : Nat} (g : Good s) (h : CutAt s s.ord x 0 a) (hz : s.way a 0 ≠ 0) : ∃ k : Nat, s.way a 0 = (k : Int) + 1 ∧ k < s.nodes.length ∧ (beforeE x (s.at' k).1 = false → twin (s.at' k).1 x = true) ∧ (beforeE x (s.at' k).1 = true → ∀ j, j < s.nodes.length → twin (s.at' j).1 x = false) := by
  obtain ⟨A, B, e, hA, hB, q⟩ := cut0 g h
  rcases q with ⟨_, hk⟩ | ⟨k, B', eB, hk, hkn⟩
  · exact absurd hk hz
  · refine ⟨k, hk, hkn, fun hb => before_total (hB k (by rw [eB]; simp)) hb, fun hb j hj => ?_⟩
    cases t : twin (s.at' j).1 x
    · rfl
    · exfalso
      have hm := (g.mem j).2 hj
      rw [e] at hm
      rcases List.mem_append.1 hm with r | r
      · have := hA j r
        rw [twin_before t] at this
        cases this
      · rw [eB] at r
        rcases List.mem_cons.1 r with rfl | r
        · rw [twin_before (twin_symm t)] at hb
          cases hb
        · have hs := g.srt
          rw [e, eB] at hs
          unfold Srt at hs
          rw [List.pairwise_append] at hs
          have := (List.pairwise_cons.1 hs.2.1).1 j r
          rw [Sk.eAt, Sk.eAt] at this
          have h2 := hB k (by rw [eB]; simp)
          rw [twin_shift this t] at h2
          cases h2
def errP (s : Sk) (x : En) (h : Int) : Int :=
  if checkS s = false then 9 else if mayE x = false then 1 else if reachP h = false then 4 else if s.es.any (fun e => twin e x) = true then 6 else if s.nodes.length = 4096 then 51 else 0
def IsPut (s : Sk) (x : En) (h : Int) (t : Sk) : Prop := (errP s x h ≠ 0 → t = ⟨[], []⟩) ∧ (errP s x h = 0 → Good t ∧ t.es = s.es ++ [x] ∧ t.hs = s.hs ++ [h.toNat])
theorem IsPut.one {s t u : Sk} {x : En} {h : Int} (a : IsPut s x h t) (b : IsPut s x h u) : t = u := by
  by_cases q : errP s x h = 0
  · obtain ⟨g1, e1, h1⟩ := a.2 q
    obtain ⟨g2, e2, h2⟩ := b.2 q
    have he : t.es = u.es := e1.trans e2.symm
    have hl : t.nodes.length = u.nodes.length := by rw [← Sk.es_len, ← Sk.es_len, he]
    have ho : t.ord = u.ord := by unfold Sk.ord; rw [he, hl]
    refine linked_unique g1.link (by rw [ho]; exact g2.link) he (h1.trans h2.symm) (fun k hk => (g1.mem k).2 hk) g1.high8 g1.head g2.head
  · rw [a.1 q, b.1 q]
theorem es_any (s : Sk) (x : En) : s.es.any (fun e => twin e x) = true ↔ ∃ k, k < s.nodes.length ∧ twin (s.at' k).1 x = true := by
  rw [List.any_eq_true]
  constructor
  · rintro ⟨e, he, ht⟩
    obtain ⟨k, hk⟩ := List.mem_iff_getElem?.1 he
    have hk' := (List.getElem?_eq_some_iff.1 hk).1
    refine ⟨k, by rw [← Sk.es_len]; exact hk', ?_⟩
    rw [← Sk.eAt]
    have : eAt s.es k = e := by simp [eAt, List.getD, hk]
    rw [this]
    exact ht
  · rintro ⟨k, hk, ht⟩
    refine ⟨eAt s.es k, ?_, by rw [Sk.eAt]; exact ht⟩
    have hk' : k < s.es.length := by rw [Sk.es_len]; exact hk
    simp [eAt, List.getD, hk']
def Sk.all (s : Sk) : List En := s.ord.map fun k => (s.at' k).1
def firstS (l : List En) (key : ByteArray) (seq : Int) : Option En := l.find? fun e => (e.key.toList == key.toList) && decide (e.seq ≤ seq)
theorem key_total {a b : ByteArray} (h1 : Op.bytesLess a.toList b.toList = false) (h2 : ¬ a.toList = b.toList) : Op.bytesLess b.toList a.toList = true := by
  cases q : Op.bytesLess b.toList a.toList
  · exact absurd (blS_total _ _ h1 q) h2
  · rfl
theorem get_none {s : Sk} {x : En} {a : Nat} (g : Good s) (h : CutAt s s.ord x 0 a) (hz : s.way a 0 = 0) : firstS s.all x.key x.seq = none := by
  obtain ⟨A, B, e, hA, hB, q⟩ := cut0 g h
  rcases q with ⟨rfl, _⟩ | ⟨k, B', _, hk, _⟩
  · unfold firstS Sk.all
    rw [List.find?_eq_none]
    intro y hy
    rw [e, List.append_nil] at hy
    obtain ⟨k, hk, rfl⟩ := List.mem_map.1 hy
    have hb := hA k hk
    simp only [beforeE, Bool.or_eq_true, Bool.and_eq_true, beq_iff_eq, decide_eq_true_eq] at hb
    simp only [Bool.and_eq_true, beq_iff_eq, decide_eq_true_eq, not_and]
    intro e1
    rcases hb with hb | ⟨_, hb⟩
    · rw [e1, blS_self] at hb; cases hb
    · omega
  · omega
theorem get_some {s : Sk} {x : En} {a : Nat} (g : Good s) (h : CutAt s s.ord x 0 a) (k : Nat) (hz : s.way a 0 = (k : Int) + 1) : firstS s.all x.key x.seq = if (s.at' k).1.key.toList = x.key.toList then some (s.at' k).1 else none := by
  obtain ⟨A, B, e, hA, hB, q⟩ := cut0 g h
  rcases q with ⟨_, hk⟩ | ⟨k', B', eB, hk, hkn⟩
  · omega
  · obtain rfl : k' = k := by omega
    have hAn : (A.map fun k => (s.at' k).1).find? (fun e => (e.key.toList == x.key.toList) && decide (e.seq ≤ x.seq)) = none := by
      rw [List.find?_eq_none]
      intro y hy
      obtain ⟨j, hj, rfl⟩ := List.mem_map.1 hy
      have hb := hA j hj
      simp only [beforeE, Bool.or_eq_true, Bool.and_eq_true, beq_iff_eq, decide_eq_true_eq] at hb
      simp only [Bool.and_eq_true, beq_iff_eq, decide_eq_true_eq, not_and]
      intro e1
      rcases hb with hb | ⟨_, hb⟩
      · rw [e1, blS_self] at hb; cases hb
      · omega
    unfold firstS Sk.all
    rw [e, List.map_append, List.find?_append, hAn, Option.none_or, eB, List.map_cons]
    have hbk := hB k' (by rw [eB]; simp)
    simp only [beforeE, Bool.or_eq_false_iff, Bool.and_eq_false_iff, beq_eq_false_iff_ne, decide_eq_false_iff_not] at hbk
    by_cases hq : (s.at' k').1.key.toList = x.key.toList
    · rw [if_pos hq]
      have hseq : (s.at' k').1.seq ≤ x.seq := by
        rcases hbk.2 with r | r
        · exact absurd hq r
        · omega
      rw [List.find?_cons_of_pos]
      simp [hq, hseq]
    · rw [if_neg hq, List.find?_eq_none]
      have hgt : Op.bytesLess x.key.toList (s.at' k').1.key.toList = true := key_total hbk.1 hq
      intro y hy
      simp only [Bool.and_eq_true, beq_iff_eq, decide_eq_true_eq, not_and]
      intro e1
      exfalso
      rcases List.mem_cons.1 hy with rfl | hy
      · exact hq e1
      · obtain ⟨j, hj, rfl⟩ := List.mem_map.1 hy
        have hs := g.srt
        rw [e, eB] at hs
        unfold Srt at hs
        rw [List.pairwise_append] at hs
        have hb := (List.pairwise_cons.1 hs.2.1).1 j hj
        rw [Sk.eAt, Sk.eAt] at hb
        simp only [beforeE, Bool.or_eq_true, Bool.and_eq_true, beq_iff_eq, decide_eq_true_eq] at hb
        rcases hb with hb | ⟨hb, _⟩
        · have := blS_trans _ _ _ hgt hb
          rw [e1, blS_self] at this
          cases this
        · rw [← e1, ← hb, blS_self] at hgt
          cases hgt
end Go.Proofs.YthiegmhplnbdlaaGreat
