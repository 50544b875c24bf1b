/- Texts of layers 1 to 13, in this order. -/
import Derived.Test.YthiegmhplnbdlaaGreatG12

namespace Go.Proofs.YthiegmhplnbdlaaGreat
open Go.RowKit
set_option linter.unusedVariables false
set_option linter.unusedSimpArgs false
theorem blS_self : ∀ l : List UInt8, Op.bytesLess l l = false
  | [] => rfl
  | x :: l => by simp [Op.bytesLess, blS_self l]
theorem blS_trans : ∀ a b c : List UInt8, Op.bytesLess a b = true → Op.bytesLess b c = true → Op.bytesLess a c = true
  | _, [], _, h, _ => by simp [Op.bytesLess] at h
  | _, _ :: _, [], _, h => by simp [Op.bytesLess] at h
  | [], _ :: _, _ :: _, _, _ => by simp [Op.bytesLess]
  | x :: a, y :: b, z :: c, h, k => by
    simp only [Op.bytesLess, Bool.or_eq_true, decide_eq_true_eq, Bool.and_eq_true, beq_iff_eq] at h k ⊢
    rcases h with h | ⟨rfl, h⟩
    · rcases k with k | ⟨rfl, k⟩
      · exact .inl (UInt8.lt_trans h k)
      · exact .inl h
    · rcases k with k | ⟨rfl, k⟩
      · exact .inl k
      · exact .inr ⟨rfl, blS_trans a b c h k⟩
theorem blS_total : ∀ a b : List UInt8, Op.bytesLess a b = false → Op.bytesLess b a = false → a = b
  | [], [], _, _ => rfl
  | [], _ :: _, h, _ => by simp [Op.bytesLess] at h
  | _ :: _, [], _, h => by simp [Op.bytesLess] at h
  | x :: a, y :: b, h, k => by
    simp only [Op.bytesLess, Bool.or_eq_false_iff, decide_eq_false_iff_not, Bool.and_eq_false_iff, beq_eq_false_iff_ne] at h k
    have e : x = y := UInt8.le_antisymm (UInt8.not_lt.1 k.1) (UInt8.not_lt.1 h.1)
    subst e
    have h2 : Op.bytesLess a b = false := by rcases h.2 with q | q; exact absurd rfl q; exact q
    have k2 : Op.bytesLess b a = false := by rcases k.2 with q | q; exact absurd rfl q; exact q
    rw [blS_total a b h2 k2]
theorem beforeS_self (a : En) : beforeE a a = false := by simp [beforeE, blS_self]
theorem beforeS_trans {a b c : En} (h : beforeE a b = true) (k : beforeE b c = true) : beforeE a c = true := by
  simp only [beforeE, Bool.or_eq_true, Bool.and_eq_true, beq_iff_eq, decide_eq_true_eq] at *
  rcases h with h | ⟨h, h'⟩
  · rcases k with k | ⟨k, k'⟩
    · exact .inl (blS_trans _ _ _ h k)
    · rw [← k]; exact .inl h
  · rcases k with k | ⟨k, k'⟩
    · rw [h]; exact .inl k
    · exact .inr ⟨h.trans k, by omega⟩
theorem before_asym {a b : En} (h : beforeE a b = true) : beforeE b a = false := by
  cases k : beforeE b a
  · rfl
  · have := beforeS_trans h k
    rw [beforeS_self] at this
    cases this
def twin (a b : En) : Bool := (a.key.toList == b.key.toList) && decide (a.seq = b.seq)
theorem before_total {a b : En} (h : beforeE a b = false) (k : beforeE b a = false) : twin a b = true := by
  simp only [beforeE, Bool.or_eq_false_iff, Bool.and_eq_false_iff] at h k
  have e := blS_total _ _ h.1 k.1
  have e2 : (a.key.toList == b.key.toList) = true := by rw [e]; simp
  have e3 : (b.key.toList == a.key.toList) = true := by rw [e]; simp
  rw [e2] at h; rw [e3] at k
  simp at h k
  simp only [twin, e2, Bool.true_and, decide_eq_true_eq]
  omega
theorem twin_before {a b : En} (h : twin a b = true) : beforeE a b = false := by
  simp only [twin, Bool.and_eq_true, beq_iff_eq, decide_eq_true_eq] at h
  simp [beforeE, h.1, h.2, blS_self]
theorem twin_symm {a b : En} (h : twin a b = true) : twin b a = true := by
  simp only [twin, Bool.and_eq_true, beq_iff_eq, decide_eq_true_eq] at *
  exact ⟨h.1.symm, h.2.symm⟩
def eAt (l : List En) (k : Nat) : En := l.getD k default
def Srt (l : List En) (p : List Nat) : Prop := p.Pairwise fun i j => beforeE (eAt l i) (eAt l j) = true
def Ones (l : List En) : Prop := ∀ i j, i < l.length → j < l.length → i ≠ j → twin (eAt l i) (eAt l j) = false
theorem Srt.nodup {l : List En} {p : List Nat} (h : Srt l p) : p.Nodup := by
  refine List.Pairwise.imp ?_ h
  intro a b hab e
  subst e
  rw [beforeS_self] at hab
  cases hab
theorem srt_unique (l : List En) : ∀ (p q : List Nat), Srt l p → Srt l q → (∀ k, k ∈ p ↔ k ∈ q) → p = q
  | [], [], _, _, _ => rfl
  | [], b :: q, _, _, h => absurd ((h b).2 (by simp)) (by simp)
  | a :: p, [], _, _, h => absurd ((h a).1 (by simp)) (by simp)
  | a :: p, b :: q, hp, hq, h => by
    have hp' := List.pairwise_cons.1 hp
    have hq' := List.pairwise_cons.1 hq
    have e : a = b := by
      have ha : a ∈ b :: q := (h a).1 (by simp)
      have hb : b ∈ a :: p := (h b).2 (by simp)
      rcases List.mem_cons.1 ha with r | r
      · exact r
      · rcases List.mem_cons.1 hb with r2 | r2
        · exact r2.symm
        · have := before_asym (hq'.1 a r)
          rw [hp'.1 b r2] at this
          cases this
    subst e
    rw [srt_unique l p q hp'.2 hq'.2 ?_]
    intro k
    have np := List.nodup_cons.1 (Srt.nodup hp)
    have nq := List.nodup_cons.1 (Srt.nodup hq)
    constructor
    · intro hk
      rcases List.mem_cons.1 ((h k).1 (by simp [hk])) with r | r
      · subst r; exact absurd hk np.1
      · exact r
    · intro hk
      rcases List.mem_cons.1 ((h k).2 (by simp [hk])) with r | r
      · subst r; exact absurd hk nq.1
      · exact r
theorem pigeon : ∀ (n : Nat) (p : List Nat), p.Nodup → (∀ k ∈ p, k < n) → n ≤ p.length → ∀ k, k < n → k ∈ p
  | 0, _, _, _, _, k, hk => by omega
  | n + 1, p, hn, hp, hl, k, hk => by
    by_cases h : n ∈ p
    · by_cases e : k = n
      · rw [e]; exact h
      · have h1 := hn.erase n
        have h2 : ∀ j ∈ p.erase n, j < n := by
          intro j hj
          have a1 := (hn.mem_erase_iff.1 hj)
          have a2 := hp j a1.2
          have := a1.1
          omega
        have h3 : n ≤ (p.erase n).length := by rw [List.length_erase_of_mem h]; omega
        exact List.mem_of_mem_erase (pigeon n (p.erase n) h1 h2 h3 k (by omega))
    · exfalso
      cases p with
      | nil => simp at hl
      | cons a q =>
        have hq := List.nodup_cons.1 hn
        have h2 : ∀ j ∈ q, j < n := by
          intro j hj
          have a2 := hp j (by simp [hj])
          have a3 : j ≠ n := by intro e; subst e; exact h (by simp [hj])
          omega
        have ha : a < n := by
          have a2 := hp a (by simp)
          have a3 : a ≠ n := by intro e; subst e; exact h (by simp)
          omega
        exact hq.1 (pigeon n q hq.2 h2 (by simpa using hl) a ha)
theorem posF_take (l : List En) (x : En) (o : List Nat) : ∀ k ∈ o.take (posF l x o), beforeE (eAt l k) x = true := by
  induction o with
  | nil => intro k hk; cases hk
  | cons a o ih =>
    intro k hk
    unfold posF at hk
    rw [List.findIdx_cons] at hk
    by_cases e : beforeE (eAt l a) x = true
    · have e' : beforeE (l.getD a default) x = true := e
      simp only [e', Bool.not_true, cond_false, List.take_succ_cons, List.mem_cons] at hk
      rcases hk with rfl | hk
      · exact e
      · exact ih k hk
    · have e' : beforeE (l.getD a default) x = false := by simpa [eAt] using e
      simp only [e', Bool.not_false, cond_true, List.take_zero] at hk
      cases hk
theorem posF_drop (l : List En) (x : En) (o : List Nat) (hs : Srt l o) : ∀ k ∈ o.drop (posF l x o), beforeE (eAt l k) x = false := by
  induction o with
  | nil => intro k hk; simp at hk
  | cons a o ih =>
    intro k hk
    have hs' := List.pairwise_cons.1 hs
    unfold posF at hk
    rw [List.findIdx_cons] at hk
    by_cases e : beforeE (eAt l a) x = true
    · have e' : beforeE (l.getD a default) x = true := e
      simp only [e', Bool.not_true, cond_false, List.drop_succ_cons] at hk
      exact ih hs'.2 k hk
    · have e' : beforeE (l.getD a default) x = false := by simpa [eAt] using e
      simp only [e', Bool.not_false, cond_true, List.drop_zero, List.mem_cons] at hk
      rcases hk with rfl | hk
      · exact e'
      · cases q : beforeE (eAt l k) x
        · rfl
        · have := beforeS_trans (hs'.1 k hk) q
          exact absurd this e
theorem insF_srt (l : List En) (o : List Nat) (i : Nat) (hs : Srt l o) (hd : ∀ k ∈ o, twin (eAt l k) (eAt l i) = false) : Srt l (insF l o i) := by
  unfold insF
  have hcat : o = o.take (posF l (l.getD i default) o) ++ o.drop (posF l (l.getD i default) o) := (List.take_append_drop _ _).symm
  have hs2 := hs
  unfold Srt at hs2
  rw [hcat, List.pairwise_append] at hs2
  have h1 := posF_take l (l.getD i default) o
  have h2 := posF_drop l (l.getD i default) o hs
  have h3 : ∀ k ∈ o.drop (posF l (l.getD i default) o), beforeE (eAt l i) (eAt l k) = true := by
    intro k hk
    cases q : beforeE (eAt l i) (eAt l k)
    · have : twin (eAt l k) (eAt l i) = true := before_total (h2 k hk) q
      rw [hd k (List.mem_of_mem_drop hk)] at this
      cases this
    · rfl
  unfold Srt
  rw [List.pairwise_append, List.pairwise_append]
  refine ⟨⟨hs2.1, by simp, ?_⟩, hs2.2.1, ?_⟩
  · intro a ha b hb
    simp at hb; subst hb
    exact h1 a ha
  · intro a ha b hb
    rcases List.mem_append.1 ha with q | q
    · exact hs2.2.2 a q b hb
    · simp at q; subst q
      exact h3 b hb
theorem orderF_srt (l : List En) (hd : Ones l) : ∀ n, n ≤ l.length → Srt l (orderF l n)
  | 0, _ => List.Pairwise.nil
  | n + 1, h => by
    refine insF_srt l _ n (orderF_srt l hd n (by omega)) ?_
    intro k hk
    have := orderF_lt l n k hk
    exact hd k n (by omega) (by omega) (by omega)
theorem orderF_mem (l : List En) (hd : Ones l) (k : Nat) : k ∈ orderF l l.length ↔ k < l.length := by
  constructor
  · exact orderF_lt l _ k
  · intro h
    exact pigeon l.length _ (Srt.nodup (orderF_srt l hd _ (Nat.le_refl _))) (orderF_lt l _) (by rw [orderF_len]; exact Nat.le_refl _) k h
theorem eAt_app (l : List En) (x : En) (k : Nat) (h : k < l.length) : eAt (l ++ [x]) k = eAt l k := by
  simp [eAt, List.getD, List.getElem?_append_left h]
theorem eAt_last (l : List En) (x : En) : eAt (l ++ [x]) l.length = x := by simp [eAt, List.getD]
theorem posF_app (l : List En) (x y : En) : ∀ (o : List Nat), (∀ k ∈ o, k < l.length) → posF (l ++ [x]) y o = posF l y o
  | [], _ => rfl
  | a :: o, h => by
    have ha := eAt_app l x a (h a (by simp))
    unfold eAt at ha
    have ih := posF_app l x y o (fun k hk => h k (by simp [hk]))
    unfold posF at ih ⊢
    rw [List.findIdx_cons, List.findIdx_cons, ha, ih]
theorem orderF_app (l : List En) (x : En) : ∀ n, n ≤ l.length → orderF (l ++ [x]) n = orderF l n
  | 0, _ => rfl
  | n + 1, h => by
    have h1 := orderF_app l x n (by omega)
    have h2 := eAt_app l x n (by omega)
    unfold eAt at h2
    simp only [orderF, insF, h1, h2]
    rw [posF_app l x _ _ (fun k hk => by have := orderF_lt l n k hk; omega)]
theorem orderF_snoc (l : List En) (x : En) : orderF (l ++ [x]) (l.length + 1) = (orderF l l.length).take (posF l x (orderF l l.length)) ++ [l.length] ++ (orderF l l.length).drop (posF l x (orderF l l.length)) := by
  have h2 := eAt_last l x
  unfold eAt at h2
  simp only [orderF, insF, orderF_app l x l.length (Nat.le_refl _), h2]
  rw [posF_app l x _ _ (fun k hk => orderF_lt l _ k hk)]
end Go.Proofs.YthiegmhplnbdlaaGreat

namespace Go.Proofs.YthiegmhplnbdlaaGreat
open Go.RowKit
set_option linter.unusedVariables false
set_option linter.unusedSimpArgs false
structure Sk where
  nodes : List (En × List Int)
  head : List Int
def Sk.at' (s : Sk) (k : Nat) : En × List Int := s.nodes.getD k default
def Sk.h (s : Sk) (k : Nat) : Nat := (s.at' k).2.length
def Sk.nx (s : Sk) (k l : Nat) : Int := (s.at' k).2.getD l 0
def Sk.hd (s : Sk) (l : Nat) : Int := s.head.getD l 0
def Sk.es (s : Sk) : List En := s.nodes.map (·.1)
def Sk.hs (s : Sk) : List Nat := s.nodes.map (·.2.length)
def Sk.way (s : Sk) : Nat → Nat → Int
  | 0, l => s.hd l
  | k + 1, l => s.nx k l
def Sk.ord (s : Sk) : List Nat := orderF s.es s.nodes.length
theorem Sk.eAt (s : Sk) (k : Nat) : eAt s.es k = (s.at' k).1 := by
  unfold Go.Proofs.YthiegmhplnbdlaaGreat.eAt Sk.es Sk.at'
  by_cases h : k < s.nodes.length
  · simp [List.getD, h]
  · simp [List.getD, h]
    rfl
theorem Sk.es_len (s : Sk) : s.es.length = s.nodes.length := by simp [Sk.es]
def chainOK (h : Nat → Nat) (nx : Nat → Nat → Int) (l : Nat) : List Nat → Int → Prop
  | [], w => w = 0
  | k :: p, w => (l < h k → w = (k : Int) + 1 ∧ chainOK h nx l p (nx k l)) ∧ (¬ l < h k → chainOK h nx l p w)
def Linked (s : Sk) (p : List Nat) : Prop := ∀ l, l < 8 → chainOK s.h s.nx l p (s.hd l)
theorem chain_in {h : Nat → Nat} {nx : Nat → Nat → Int} {l k : Nat} {p : List Nat} {w : Int} (hk : l < h k) : chainOK h nx l (k :: p) w ↔ w = (k : Int) + 1 ∧ chainOK h nx l p (nx k l) := by
  rw [chainOK]
  exact ⟨fun q => q.1 hk, fun q => ⟨fun _ => q, fun n => absurd hk n⟩⟩
theorem chain_out {h : Nat → Nat} {nx : Nat → Nat → Int} {l k : Nat} {p : List Nat} {w : Int} (hk : ¬ l < h k) : chainOK h nx l (k :: p) w ↔ chainOK h nx l p w := by
  rw [chainOK]
  exact ⟨fun q => q.2 hk, fun q => ⟨fun n => absurd n hk, fun _ => q⟩⟩
theorem chain_congr {h h' : Nat → Nat} {nx nx' : Nat → Nat → Int} {l : Nat} : ∀ (p : List Nat) (w : Int), (∀ k ∈ p, h k = h' k ∧ (l < h k → nx k l = nx' k l)) → (chainOK h nx l p w ↔ chainOK h' nx' l p w)
  | [], w, _ => Iff.rfl
  | k :: p, w, H => by
    have hk := H k (by simp)
    have ih := fun v => chain_congr (h := h) (h' := h') (nx := nx) (nx' := nx') (l := l) p v (fun j hj => H j (by simp [hj]))
    by_cases q : l < h k
    · rw [chain_in q, chain_in (by rw [← hk.1]; exact q), ih, hk.2 q]
    · rw [chain_out q, chain_out (by rw [← hk.1]; exact q), ih]
theorem chain_skip {h : Nat → Nat} {nx : Nat → Nat → Int} {l : Nat} : ∀ (p q : List Nat) (w : Int), (∀ k ∈ p, ¬ l < h k) → (chainOK h nx l (p ++ q) w ↔ chainOK h nx l q w)
  | [], q, w, _ => Iff.rfl
  | k :: p, q, w, H => by
    rw [List.cons_append, chain_out (H k (by simp)), chain_skip p q w (fun j hj => H j (by simp [hj]))]
theorem chain_suffix {h : Nat → Nat} {nx : Nat → Nat → Int} {l k : Nat} {r : List Nat} : ∀ (p : List Nat) (w : Int), chainOK h nx l (p ++ k :: r) w → l < h k → chainOK h nx l r (nx k l)
  | [], w, H, hk => ((chain_in hk).1 H).2
  | j :: p, w, H, hk => by
    rw [List.cons_append] at H
    by_cases q : l < h j
    · exact chain_suffix p _ ((chain_in q).1 H).2 hk
    · exact chain_suffix p _ ((chain_out q).1 H) hk
theorem chain_mid {h h' : Nat → Nat} {nx nx' : Nat → Nat → Int} {l k : Nat} {r r' : List Nat} : ∀ (p : List Nat) (w : Int), chainOK h nx l (p ++ k :: r) w → l < h k → h k = h' k → (∀ j ∈ p, h j = h' j ∧ (l < h j → nx j l = nx' j l)) → chainOK h' nx' l r' (nx' k l) → chainOK h' nx' l (p ++ k :: r') w
  | [], w, H, hk, e, _, B => by
    exact (chain_in (by rw [← e]; exact hk)).2 ⟨((chain_in hk).1 H).1, B⟩
  | j :: p, w, H, hk, e, C, B => by
    rw [List.cons_append] at H ⊢
    have cj := C j (by simp)
    have C' := fun i hi => C i (List.mem_cons_of_mem j hi)
    by_cases q : l < h j
    · have H' := (chain_in q).1 H
      refine (chain_in (by rw [← cj.1]; exact q)).2 ⟨H'.1, ?_⟩
      rw [← cj.2 q]
      exact chain_mid p _ H'.2 hk e C' B
    · exact (chain_out (by rw [← cj.1]; exact q)).2 (chain_mid p _ ((chain_out q).1 H) hk e C' B)
theorem chain_unique {h : Nat → Nat} {nx nx' : Nat → Nat → Int} {l : Nat} : ∀ (p : List Nat) (w w' : Int), chainOK h nx l p w → chainOK h nx' l p w' → w = w' ∧ ∀ k ∈ p, l < h k → nx k l = nx' k l
  | [], w, w', H, H' => ⟨by unfold chainOK at H H'; rw [H, H'], fun k hk => by cases hk⟩
  | k :: p, w, w', H, H' => by
    by_cases q : l < h k
    · have a := (chain_in q).1 H
      have b := (chain_in q).1 H'
      have ih := chain_unique p _ _ a.2 b.2
      refine ⟨by rw [a.1, b.1], fun j hj hl => ?_⟩
      rcases List.mem_cons.1 hj with rfl | r
      · exact ih.1
      · exact ih.2 j r hl
    · have ih := chain_unique p _ _ ((chain_out q).1 H) ((chain_out q).1 H')
      refine ⟨ih.1, fun j hj hl => ?_⟩
      rcases List.mem_cons.1 hj with rfl | r
      · exact absurd hl q
      · exact ih.2 j r hl
theorem ints_ext {a b : List Int} (hl : a.length = b.length) (h : ∀ i, i < a.length → a.getD i 0 = b.getD i 0) : a = b := by
  refine List.ext_getElem hl (fun i h1 h2 => ?_)
  have := h i h1
  simpa [List.getD, h1, h2] using this
theorem linked_unique {s t : Sk} {p : List Nat} (hs : Linked s p) (ht : Linked t p) (he : s.es = t.es) (hh : s.hs = t.hs) (hp : ∀ k, k < s.nodes.length → k ∈ p) (h8 : ∀ k, s.h k ≤ 8) (l1 : s.head.length = 8) (l2 : t.head.length = 8) : s = t := by
  have hlen : s.nodes.length = t.nodes.length := by
    have := congrArg List.length he
    simpa [Sk.es] using this
  have hkk : ∀ k, s.h k = t.h k := by
    intro k
    by_cases q : k < s.nodes.length
    · have := congrArg (fun m => m[k]?) hh
      simp only [Sk.hs, List.getElem?_map] at this
      simp [q, (show k < t.nodes.length by omega)] at this
      simp [Sk.h, Sk.at', List.getD, q, (show k < t.nodes.length by omega), this]
    · simp [Sk.h, Sk.at', List.getD, q, (show ¬ k < t.nodes.length by omega)]
  have hf : s.h = t.h := funext hkk
  have U : ∀ l, l < 8 → s.hd l = t.hd l ∧ ∀ k ∈ p, l < s.h k → s.nx k l = t.nx k l := by
    intro l hl
    have a := hs l hl
    have b := ht l hl
    rw [← hf] at b
    exact chain_unique p _ _ a b
  obtain ⟨sn, sh⟩ := s
  obtain ⟨tn, th⟩ := t
  have e1 : sh = th := ints_ext (by simp at l1 l2; omega) (fun i hi => (U i (by simp at l1; omega)).1)
  have e2 : sn = tn := by
    refine List.ext_getElem hlen (fun k h1 h2 => ?_)
    have a1 := congrArg (fun m => m[k]?) he
    simp only [Sk.es, List.getElem?_map] at a1
    simp [h1, h2] at a1
    have a2 : sn[k].2 = tn[k].2 := by
      have q := hkk k
      have g1 : (Sk.at' ⟨sn, sh⟩ k) = sn[k] := by simp [Sk.at', List.getD, h1]
      have g2 : (Sk.at' ⟨tn, th⟩ k) = tn[k] := by simp [Sk.at', List.getD, h2]
      have b8 := h8 k
      unfold Sk.h at q b8
      rw [g1] at q b8
      rw [g2] at q
      refine ints_ext q (fun i hi => ?_)
      have r := (U i (by omega)).2 k (hp k h1) (by unfold Sk.h; rw [g1]; exact hi)
      unfold Sk.nx at r
      rw [g1, g2] at r
      exact r
    exact Prod.ext a1 a2
  rw [e1, e2]
def Sk.set (s : Sk) : Nat → Nat → Int → Sk
  | 0, l, v => { s with head := s.head.set l v }
  | k + 1, l, v => { s with nodes := s.nodes.set k ((s.at' k).1, (s.at' k).2.set l v) }
theorem Sk.set_len (s : Sk) (a l : Nat) (v : Int) : (s.set a l v).nodes.length = s.nodes.length := by cases a <;> simp [Sk.set]
theorem Sk.set_at (s : Sk) (a l : Nat) (v : Int) (j : Nat) : (s.set a l v).at' j = if a = j + 1 ∧ j < s.nodes.length then ((s.at' j).1, (s.at' j).2.set l v) else s.at' j := by
  cases a with
  | zero => simp [Sk.set, Sk.at']
  | succ k =>
    simp only [Sk.set, Sk.at', List.getD, List.getElem?_set]
    by_cases e : k = j
    · subst e
      by_cases h : k < s.nodes.length
      · simp [h]
      · simp [h]
    · have : ¬ (k + 1 = j + 1) := by omega
      simp [e, this]
theorem Sk.set_es (s : Sk) (a l : Nat) (v : Int) : (s.set a l v).es = s.es := by
  cases a with
  | zero => rfl
  | succ k =>
    simp only [Sk.set, Sk.es, List.map_set]
    refine List.ext_getElem (by simp) (fun i h1 h2 => ?_)
    rw [List.getElem_set]
    split
    · rename_i e
      subst e
      simp at h1 h2
      simp [Sk.at', List.getD, h2]
    · rfl
theorem Sk.set_h (s : Sk) (a l : Nat) (v : Int) (j : Nat) : (s.set a l v).h j = s.h j := by
  unfold Sk.h
  rw [Sk.set_at]
  split <;> simp
theorem Sk.set_hs (s : Sk) (a l : Nat) (v : Int) : (s.set a l v).hs = s.hs := by
  refine List.ext_getElem (by simp [Sk.hs, Sk.set_len]) (fun i h1 h2 => ?_)
  have := Sk.set_h s a l v i
  simp only [Sk.hs, List.length_map] at h1 h2
  simpa [Sk.hs, Sk.h, Sk.at', List.getD, h1, h2] using this
theorem Sk.set_head (s : Sk) (a l : Nat) (v : Int) : (s.set a l v).head.length = s.head.length := by cases a <;> simp [Sk.set]
theorem getD_set (m : List Int) (l i : Nat) (v : Int) : (m.set l v).getD i 0 = if i = l ∧ l < m.length then v else m.getD i 0 := by
  simp only [List.getD, List.getElem?_set]
  by_cases e : l = i
  · subst e
    by_cases h : l < m.length
    · simp [h]
    · simp [h]
  · simp [e, Ne.symm e]
theorem Sk.set_nx (s : Sk) (a l : Nat) (v : Int) (j i : Nat) : (s.set a l v).nx j i = if a = j + 1 ∧ j < s.nodes.length ∧ i = l ∧ l < s.h j then v else s.nx j i := by
  unfold Sk.nx
  rw [Sk.set_at]
  by_cases q : a = j + 1 ∧ j < s.nodes.length
  · rw [if_pos q, getD_set]
    simp [q.1, q.2, Sk.h]
  · rw [if_neg q, if_neg (fun r => q ⟨r.1, r.2.1⟩)]
theorem Sk.set_hd (s : Sk) (a l : Nat) (v : Int) (i : Nat) : (s.set a l v).hd i = if a = 0 ∧ i = l ∧ l < s.head.length then v else s.hd i := by
  cases a with
  | zero =>
    simp only [Sk.set, Sk.hd, true_and]
    exact getD_set _ _ _ _
  | succ k => simp [Sk.set, Sk.hd]
end Go.Proofs.YthiegmhplnbdlaaGreat

namespace Go.Proofs.YthiegmhplnbdlaaGreat
open Go.RowKit
set_option linter.unusedVariables false
set_option linter.unusedSimpArgs false
def AtEnd (s : Sk) (P : List Nat) (a l : Nat) : Prop := (a = 0 ∧ P = []) ∨ ∃ P' k, P = P' ++ [k] ∧ a = k + 1 ∧ l < s.h k
def CutAt (s : Sk) (o : List Nat) (x : En) (l a : Nat) : Prop := ∃ P R, o = P ++ R ∧ AtEnd s P a l ∧ (∀ k ∈ P, beforeE (s.at' k).1 x = true) ∧ (∀ k ∈ R, l < s.h k → beforeE (s.at' k).1 x = false)
def CutOn (s : Sk) (o : List Nat) (x : En) (l a : Nat) : Prop := ∃ P R, o = P ++ R ∧ AtEnd s P a l ∧ ∀ k ∈ P, beforeE (s.at' k).1 x = true
theorem CutAt.on {s : Sk} {o : List Nat} {x : En} {l a : Nat} (h : CutAt s o x l a) : CutOn s o x l a := by
  obtain ⟨P, R, h1, h2, h3, _⟩ := h
  exact ⟨P, R, h1, h2, h3⟩
theorem CutOn.lower {s : Sk} {o : List Nat} {x : En} {l l' a : Nat} (h : CutOn s o x l a) (hl : l' ≤ l) : CutOn s o x l' a := by
  obtain ⟨P, R, h1, h2, h3⟩ := h
  refine ⟨P, R, h1, ?_, h3⟩
  rcases h2 with q | ⟨P', k, e1, e2, e3⟩
  · exact .inl q
  · exact .inr ⟨P', k, e1, e2, by omega⟩
theorem CutOn.start (s : Sk) (o : List Nat) (x : En) (l : Nat) : CutOn s o x l 0 := ⟨[], o, rfl, .inl ⟨rfl, rfl⟩, fun k hk => by cases hk⟩
theorem CutOn.bound {s : Sk} {o : List Nat} {x : En} {l a n : Nat} (h : CutOn s o x l a) (ho : ∀ k ∈ o, k < n) : a ≤ n := by
  obtain ⟨P, R, h1, h2, h3⟩ := h
  rcases h2 with ⟨q, _⟩ | ⟨P', k, e1, e2, e3⟩
  · omega
  · have := ho k (by rw [h1, e1]; simp)
    omega
theorem CutOn.high {s : Sk} {o : List Nat} {x : En} {l a : Nat} (h : CutOn s o x l a) (h8 : s.head.length = 8) (hl : l < 8) : (a = 0 → l < s.head.length) ∧ ∀ k, a = k + 1 → l < s.h k := by
  obtain ⟨P, R, h1, h2, h3⟩ := h
  refine ⟨fun _ => by omega, fun k hk => ?_⟩
  rcases h2 with ⟨q, _⟩ | ⟨P', k', e1, e2, e3⟩
  · omega
  · obtain rfl : k' = k := by omega
    exact e3
theorem chain_zero {h : Nat → Nat} {nx : Nat → Nat → Int} {l : Nat} : ∀ (R : List Nat) , chainOK h nx l R 0 → ∀ k ∈ R, ¬ l < h k
  | [], _, k, hk => by cases hk
  | j :: R, H, k, hk => by
    by_cases q : l < h j
    · have := ((chain_in q).1 H).1
      omega
    · rcases List.mem_cons.1 hk with rfl | r
      · exact q
      · exact chain_zero R ((chain_out q).1 H) k r
theorem chain_next {h : Nat → Nat} {nx : Nat → Nat → Int} {l : Nat} : ∀ (R : List Nat) (w : Int), chainOK h nx l R w → w ≠ 0 → ∃ (R1 : List Nat) (k : Nat) (R2 : List Nat), R = R1 ++ k :: R2 ∧ w = (k : Int) + 1 ∧ l < h k ∧ (∀ j ∈ R1, ¬ l < h j) ∧ chainOK h nx l R2 (nx k l)
  | [], w, H, hw => absurd H hw
  | j :: R, w, H, hw => by
    by_cases q : l < h j
    · have := (chain_in q).1 H
      exact ⟨[], j, R, rfl, this.1, q, (fun i hi => by cases hi), this.2⟩
    · obtain ⟨R1, k, R2, e, h1, h2, h3, h4⟩ := chain_next R w ((chain_out q).1 H) hw
      refine ⟨j :: R1, k, R2, by rw [e]; rfl, h1, h2, ?_, h4⟩
      intro i hi
      rcases List.mem_cons.1 hi with rfl | r
      · exact q
      · exact h3 i r
theorem chain_way {s : Sk} {P R : List Nat} {a l : Nat} (hL : chainOK s.h s.nx l (P ++ R) (s.hd l)) (hA : AtEnd s P a l) : chainOK s.h s.nx l R (s.way a l) := by
  rcases hA with ⟨rfl, rfl⟩ | ⟨P', k, rfl, rfl, hk⟩
  · exact hL
  · rw [List.append_assoc] at hL
    exact chain_suffix P' _ hL hk
theorem srt_app {l : List En} {A B : List Nat} (h : Srt l (A ++ B)) : ∀ a ∈ A, ∀ b ∈ B, beforeE (eAt l a) (eAt l b) = true := by
  unfold Srt at h
  rw [List.pairwise_append] at h
  exact h.2.2
theorem cut_stop {s : Sk} {o : List Nat} {x : En} {l a : Nat} (hL : chainOK s.h s.nx l o (s.hd l)) (h : CutOn s o x l a) (hz : s.way a l = 0) : CutAt s o x l a := by
  obtain ⟨P, R, rfl, h2, h3⟩ := h
  have hw := chain_way hL h2
  rw [hz] at hw
  exact ⟨P, R, rfl, h2, h3, fun k hk hl => absurd hl (chain_zero R hw k hk)⟩
theorem cut_step {s : Sk} {o : List Nat} {x : En} {l a : Nat} (hL : chainOK s.h s.nx l o (s.hd l)) (hS : Srt s.es o) (h : CutOn s o x l a) (hz : s.way a l ≠ 0) :
    ∃ k, k ∈ o ∧ s.way a l = (k : Int) + 1 ∧ l < s.h k ∧ (beforeE (s.at' k).1 x = false → CutAt s o x l a) ∧ (beforeE (s.at' k).1 x = true → CutOn s o x l (k + 1)) ∧ (a = 0 ∨ ∃ j, a = j + 1 ∧ o.idxOf j < o.idxOf k) := by
  obtain ⟨P, R, rfl, h2, h3⟩ := h
  have hw := chain_way hL h2
  obtain ⟨R1, k, R2, rfl, e1, e2, e3, e4⟩ := chain_next R _ hw hz
  have hS1 : Srt s.es (R1 ++ k :: R2) := by
    unfold Srt at hS ⊢
    rw [List.pairwise_append] at hS
    exact hS.2.1
  have hS2 : Srt s.es (k :: R2) := by
    unfold Srt at hS1 ⊢
    rw [List.pairwise_append] at hS1
    exact hS1.2.1
  refine ⟨k, by simp, e1, e2, ?_, ?_, ?_⟩
  · intro hb
    refine ⟨P, R1 ++ k :: R2, rfl, h2, h3, fun j hj hl => ?_⟩
    rcases List.mem_append.1 hj with q | q
    · exact absurd hl (e3 j q)
    · rcases List.mem_cons.1 q with rfl | q
      · exact hb
      · cases r : beforeE (s.at' j).1 x
        · rfl
        · have t := (List.pairwise_cons.1 hS2).1 j q
          rw [Sk.eAt, Sk.eAt] at t
          rw [beforeS_trans t r] at hb
          cases hb
  · intro hb
    refine ⟨P ++ R1 ++ [k], R2, by simp, .inr ⟨P ++ R1, k, by simp, rfl, e2⟩, fun j hj => ?_⟩
    rcases List.mem_append.1 hj with q | q
    · rcases List.mem_append.1 q with q | q
      · exact h3 j q
      · have t := srt_app hS1 j q k (by simp)
        rw [Sk.eAt, Sk.eAt] at t
        exact beforeS_trans t hb
    · simp at q; subst q
      exact hb
  · rcases h2 with ⟨q, _⟩ | ⟨P', j, rfl, rfl, _⟩
    · exact .inl q
    · refine .inr ⟨j, rfl, ?_⟩
      have nd := Srt.nodup hS
      rw [List.append_assoc] at nd ⊢
      have a1 : (P' ++ ([j] ++ (R1 ++ k :: R2))).idxOf j = P'.length := by
        have hn : j ∉ P' := by
          intro hj
          exact (List.nodup_append.1 nd).2.2 j hj j (by simp) rfl
        rw [List.idxOf_append, if_neg hn]
        simp
      have a2 : P'.length < (P' ++ ([j] ++ (R1 ++ k :: R2))).idxOf k := by
        have hn : k ∉ P' := by
          intro hj
          exact (List.nodup_append.1 nd).2.2 k hj k (by simp) rfl
        rw [List.idxOf_append, if_neg hn]
        have hjk : j ≠ k := by
          intro e
          have nd2 := (List.nodup_append.1 nd).2.1
          rw [List.singleton_append, List.nodup_cons] at nd2
          exact nd2.1 (by rw [e]; simp)
        simp only [List.singleton_append]
        rw [List.idxOf_cons]
        have : (j == k) = false := by simpa using hjk
        simp [this]
      omega
end Go.Proofs.YthiegmhplnbdlaaGreat
