/- The texts MOrd, MLink, LHgt, PMem, PAdd, in this order. -/
import Derived.Test.YtekoniaobmapdabG19
import Derived.Test.YtekoniaobmapdabG08

/- Plain facts: the order of versions is strict; the document's order is the one sorted list of all places. -/
namespace Go.Proofs.Ytekoniaobmapdab
open Go.RowKit
set_option linter.unusedVariables false
set_option linter.unusedSimpArgs false

theorem blS_self : ∀ l : List UInt8, Op.bytesLess l l = false
  | [] => rfl
  | x :: l => by simp [Op.bytesLess, blS_self l]
theorem blS_trans : ∀ a b c : List UInt8, Op.bytesLess a b = true → Op.bytesLess b c = true → Op.bytesLess a c = true
  | _, [], _, h, _ => by simp [Op.bytesLess] at h
  | _, _ :: _, [], _, h => by simp [Op.bytesLess] at h
  | [], _ :: _, _ :: _, _, _ => by simp [Op.bytesLess]
  | x :: a, y :: b, z :: c, h, k => by
    simp only [Op.bytesLess, Bool.or_eq_true, decide_eq_true_eq, Bool.and_eq_true, beq_iff_eq] at h k ⊢
    rcases h with h | ⟨rfl, h⟩
    · rcases k with k | ⟨rfl, k⟩
      · exact .inl (UInt8.lt_trans h k)
      · exact .inl h
    · rcases k with k | ⟨rfl, k⟩
      · exact .inl k
      · exact .inr ⟨rfl, blS_trans a b c h k⟩
theorem blS_total : ∀ a b : List UInt8, Op.bytesLess a b = false → Op.bytesLess b a = false → a = b
  | [], [], _, _ => rfl
  | [], _ :: _, h, _ => by simp [Op.bytesLess] at h
  | _ :: _, [], _, h => by simp [Op.bytesLess] at h
  | x :: a, y :: b, h, k => by
    simp only [Op.bytesLess, Bool.or_eq_false_iff, decide_eq_false_iff_not, Bool.and_eq_false_iff, beq_eq_false_iff_ne] at h k
    have e : x = y := UInt8.le_antisymm (UInt8.not_lt.1 k.1) (UInt8.not_lt.1 h.1)
    subst e
    have h2 : Op.bytesLess a b = false := by rcases h.2 with q | q; exact absurd rfl q; exact q
    have k2 : Op.bytesLess b a = false := by rcases k.2 with q | q; exact absurd rfl q; exact q
    rw [blS_total a b h2 k2]

theorem beforeS_self (a : En) : beforeE a a = false := by simp [beforeE, blS_self]
theorem beforeS_trans {a b c : En} (h : beforeE a b = true) (k : beforeE b c = true) : beforeE a c = true := by
  simp only [beforeE, Bool.or_eq_true, Bool.and_eq_true, beq_iff_eq, decide_eq_true_eq] at *
  rcases h with h | ⟨h, h'⟩
  · rcases k with k | ⟨k, k'⟩
    · exact .inl (blS_trans _ _ _ h k)
    · rw [← k]; exact .inl h
  · rcases k with k | ⟨k, k'⟩
    · rw [h]; exact .inl k
    · exact .inr ⟨h.trans k, by omega⟩
theorem before_asym {a b : En} (h : beforeE a b = true) : beforeE b a = false := by
  cases k : beforeE b a
  · rfl
  · have := beforeS_trans h k
    rw [beforeS_self] at this
    cases this
/-- Two versions have one Key and Seq. -/
def twin (a b : En) : Bool := (a.key.toList == b.key.toList) && decide (a.seq = b.seq)
theorem before_total {a b : En} (h : beforeE a b = false) (k : beforeE b a = false) : twin a b = true := by
  simp only [beforeE, Bool.or_eq_false_iff, Bool.and_eq_false_iff] at h k
  have e := blS_total _ _ h.1 k.1
  have e2 : (a.key.toList == b.key.toList) = true := by rw [e]; simp
  have e3 : (b.key.toList == a.key.toList) = true := by rw [e]; simp
  rw [e2] at h; rw [e3] at k
  simp at h k
  simp only [twin, e2, Bool.true_and, decide_eq_true_eq]
  omega
theorem twin_before {a b : En} (h : twin a b = true) : beforeE a b = false := by
  simp only [twin, Bool.and_eq_true, beq_iff_eq, decide_eq_true_eq] at h
  simp [beforeE, h.1, h.2, blS_self]
theorem twin_symm {a b : En} (h : twin a b = true) : twin b a = true := by
  simp only [twin, Bool.and_eq_true, beq_iff_eq, decide_eq_true_eq] at *
  exact ⟨h.1.symm, h.2.symm⟩

/-! ### sorted lists of places -/
def eAt (l : List En) (k : Nat) : En := l.getD k default
def Srt (l : List En) (p : List Nat) : Prop := p.Pairwise fun i j => beforeE (eAt l i) (eAt l j) = true
def Ones (l : List En) : Prop := ∀ i j, i < l.length → j < l.length → i ≠ j → twin (eAt l i) (eAt l j) = false

theorem Srt.nodup {l : List En} {p : List Nat} (h : Srt l p) : p.Nodup := by
  refine List.Pairwise.imp ?_ h
  intro a b hab e
  subst e
  rw [beforeS_self] at hab
  cases hab

theorem srt_unique (l : List En) : ∀ (p q : List Nat), Srt l p → Srt l q → (∀ k, k ∈ p ↔ k ∈ q) → p = q
  | [], [], _, _, _ => rfl
  | [], b :: q, _, _, h => absurd ((h b).2 (by simp)) (by simp)
  | a :: p, [], _, _, h => absurd ((h a).1 (by simp)) (by simp)
  | a :: p, b :: q, hp, hq, h => by
    have hp' := List.pairwise_cons.1 hp
    have hq' := List.pairwise_cons.1 hq
    have e : a = b := by
      have ha : a ∈ b :: q := (h a).1 (by simp)
      have hb : b ∈ a :: p := (h b).2 (by simp)
      rcases List.mem_cons.1 ha with r | r
      · exact r
      · rcases List.mem_cons.1 hb with r2 | r2
        · exact r2.symm
        · have := before_asym (hq'.1 a r)
          rw [hp'.1 b r2] at this
          cases this
    subst e
    rw [srt_unique l p q hp'.2 hq'.2 ?_]
    intro k
    have np := List.nodup_cons.1 (Srt.nodup hp)
    have nq := List.nodup_cons.1 (Srt.nodup hq)
    constructor
    · intro hk
      rcases List.mem_cons.1 ((h k).1 (by simp [hk])) with r | r
      · subst r; exact absurd hk np.1
      · exact r
    · intro hk
      rcases List.mem_cons.1 ((h k).2 (by simp [hk])) with r | r
      · subst r; exact absurd hk nq.1
      · exact r

theorem pigeon : ∀ (n : Nat) (p : List Nat), p.Nodup → (∀ k ∈ p, k < n) → n ≤ p.length → ∀ k, k < n → k ∈ p
  | 0, _, _, _, _, k, hk => by omega
  | n + 1, p, hn, hp, hl, k, hk => by
    by_cases h : n ∈ p
    · by_cases e : k = n
      · rw [e]; exact h
      · have h1 := hn.erase n
        have h2 : ∀ j ∈ p.erase n, j < n := by
          intro j hj
          have a1 := (hn.mem_erase_iff.1 hj)
          have a2 := hp j a1.2
          have := a1.1
          omega
        have h3 : n ≤ (p.erase n).length := by rw [List.length_erase_of_mem h]; omega
        exact List.mem_of_mem_erase (pigeon n (p.erase n) h1 h2 h3 k (by omega))
    · exfalso
      cases p with
      | nil => simp at hl
      | cons a q =>
        have hq := List.nodup_cons.1 hn
        have h2 : ∀ j ∈ q, j < n := by
          intro j hj
          have a2 := hp j (by simp [hj])
          have a3 : j ≠ n := by intro e; subst e; exact h (by simp [hj])
          omega
        have ha : a < n := by
          have a2 := hp a (by simp)
          have a3 : a ≠ n := by intro e; subst e; exact h (by simp)
          omega
        exact hq.1 (pigeon n q hq.2 h2 (by simpa using hl) a ha)

theorem posF_take (l : List En) (x : En) (o : List Nat) : ∀ k ∈ o.take (posF l x o), beforeE (eAt l k) x = true := by
  induction o with
  | nil => intro k hk; cases hk
  | cons a o ih =>
    intro k hk
    unfold posF at hk
    rw [List.findIdx_cons] at hk
    by_cases e : beforeE (eAt l a) x = true
    · have e' : beforeE (l.getD a default) x = true := e
      simp only [e', Bool.not_true, cond_false, List.take_succ_cons, List.mem_cons] at hk
      rcases hk with rfl | hk
      · exact e
      · exact ih k hk
    · have e' : beforeE (l.getD a default) x = false := by simpa [eAt] using e
      simp only [e', Bool.not_false, cond_true, List.take_zero] at hk
      cases hk
theorem posF_drop (l : List En) (x : En) (o : List Nat) (hs : Srt l o) : ∀ k ∈ o.drop (posF l x o), beforeE (eAt l k) x = false := by
  induction o with
  | nil => intro k hk; simp at hk
  | cons a o ih =>
    intro k hk
    have hs' := List.pairwise_cons.1 hs
    unfold posF at hk
    rw [List.findIdx_cons] at hk
    by_cases e : beforeE (eAt l a) x = true
    · have e' : beforeE (l.getD a default) x = true := e
      simp only [e', Bool.not_true, cond_false, List.drop_succ_cons] at hk
      exact ih hs'.2 k hk
    · have e' : beforeE (l.getD a default) x = false := by simpa [eAt] using e
      simp only [e', Bool.not_false, cond_true, List.drop_zero, List.mem_cons] at hk
      rcases hk with rfl | hk
      · exact e'
      · cases q : beforeE (eAt l k) x
        · rfl
        · have := beforeS_trans (hs'.1 k hk) q
          exact absurd this e

theorem insF_srt (l : List En) (o : List Nat) (i : Nat) (hs : Srt l o) (hd : ∀ k ∈ o, twin (eAt l k) (eAt l i) = false) : Srt l (insF l o i) := by
  unfold insF
  have hcat : o = o.take (posF l (l.getD i default) o) ++ o.drop (posF l (l.getD i default) o) := (List.take_append_drop _ _).symm
  have hs2 := hs
  unfold Srt at hs2
  rw [hcat, List.pairwise_append] at hs2
  have h1 := posF_take l (l.getD i default) o
  have h2 := posF_drop l (l.getD i default) o hs
  have h3 : ∀ k ∈ o.drop (posF l (l.getD i default) o), beforeE (eAt l i) (eAt l k) = true := by
    intro k hk
    cases q : beforeE (eAt l i) (eAt l k)
    · have : twin (eAt l k) (eAt l i) = true := before_total (h2 k hk) q
      rw [hd k (List.mem_of_mem_drop hk)] at this
      cases this
    · rfl
  unfold Srt
  rw [List.pairwise_append, List.pairwise_append]
  refine ⟨⟨hs2.1, by simp, ?_⟩, hs2.2.1, ?_⟩
  · intro a ha b hb
    simp at hb; subst hb
    exact h1 a ha
  · intro a ha b hb
    rcases List.mem_append.1 ha with q | q
    · exact hs2.2.2 a q b hb
    · simp at q; subst q
      exact h3 b hb

theorem orderF_srt (l : List En) (hd : Ones l) : ∀ n, n ≤ l.length → Srt l (orderF l n)
  | 0, _ => List.Pairwise.nil
  | n + 1, h => by
    refine insF_srt l _ n (orderF_srt l hd n (by omega)) ?_
    intro k hk
    have := orderF_lt l n k hk
    exact hd k n (by omega) (by omega) (by omega)
theorem orderF_mem (l : List En) (hd : Ones l) (k : Nat) : k ∈ orderF l l.length ↔ k < l.length := by
  constructor
  · exact orderF_lt l _ k
  · intro h
    exact pigeon l.length _ (Srt.nodup (orderF_srt l hd _ (Nat.le_refl _))) (orderF_lt l _) (by rw [orderF_len]; exact Nat.le_refl _) k h

theorem eAt_app (l : List En) (x : En) (k : Nat) (h : k < l.length) : eAt (l ++ [x]) k = eAt l k := by
  simp [eAt, List.getD, List.getElem?_append_left h]
theorem eAt_last (l : List En) (x : En) : eAt (l ++ [x]) l.length = x := by simp [eAt, List.getD]
theorem posF_app (l : List En) (x y : En) : ∀ (o : List Nat), (∀ k ∈ o, k < l.length) → posF (l ++ [x]) y o = posF l y o
  | [], _ => rfl
  | a :: o, h => by
    have ha := eAt_app l x a (h a (by simp))
    unfold eAt at ha
    have ih := posF_app l x y o (fun k hk => h k (by simp [hk]))
    unfold posF at ih ⊢
    rw [List.findIdx_cons, List.findIdx_cons, ha, ih]
theorem orderF_app (l : List En) (x : En) : ∀ n, n ≤ l.length → orderF (l ++ [x]) n = orderF l n
  | 0, _ => rfl
  | n + 1, h => by
    have h1 := orderF_app l x n (by omega)
    have h2 := eAt_app l x n (by omega)
    unfold eAt at h2
    simp only [orderF, insF, h1, h2]
    rw [posF_app l x _ _ (fun k hk => by have := orderF_lt l n k hk; omega)]
theorem orderF_snoc (l : List En) (x : En) : orderF (l ++ [x]) (l.length + 1) = (orderF l l.length).take (posF l x (orderF l l.length)) ++ [l.length] ++ (orderF l l.length).drop (posF l x (orderF l l.length)) := by
  have h2 := eAt_last l x
  unfold eAt at h2
  simp only [orderF, insF, orderF_app l x l.length (Nat.le_refl _), h2]
  rw [posF_app l x _ _ (fun k hk => orderF_lt l _ k hk)]
end Go.Proofs.Ytekoniaobmapdab

/- Plain facts: lists of nodes and their ways; what it is that the ways go through the nodes in order. -/
namespace Go.Proofs.Ytekoniaobmapdab
open Go.RowKit
set_option linter.unusedVariables false
set_option linter.unusedSimpArgs false

/-- A list of chapter 7. -/
structure Sk where
  nodes : List (En × List Int)
  head : List Int
def Sk.at' (s : Sk) (k : Nat) : En × List Int := s.nodes.getD k default
def Sk.h (s : Sk) (k : Nat) : Nat := (s.at' k).2.length
def Sk.nx (s : Sk) (k l : Nat) : Int := (s.at' k).2.getD l 0
def Sk.hd (s : Sk) (l : Nat) : Int := s.head.getD l 0
def Sk.es (s : Sk) : List En := s.nodes.map (·.1)
def Sk.hs (s : Sk) : List Nat := s.nodes.map (·.2.length)
/-- The way on level l of the node of number a, of the head where that is 0. -/
def Sk.way (s : Sk) : Nat → Nat → Int
  | 0, l => s.hd l
  | k + 1, l => s.nx k l
def Sk.ord (s : Sk) : List Nat := orderF s.es s.nodes.length

theorem Sk.eAt (s : Sk) (k : Nat) : eAt s.es k = (s.at' k).1 := by
  unfold Go.Proofs.Ytekoniaobmapdab.eAt Sk.es Sk.at'
  by_cases h : k < s.nodes.length
  · simp [List.getD, h]
  · simp [List.getD, h]
    rfl
theorem Sk.es_len (s : Sk) : s.es.length = s.nodes.length := by simp [Sk.es]

/-- On level l the way w goes through just those of the places p that are so high, in that order. -/
def chainOK (h : Nat → Nat) (nx : Nat → Nat → Int) (l : Nat) : List Nat → Int → Prop
  | [], w => w = 0
  | k :: p, w => (l < h k → w = (k : Int) + 1 ∧ chainOK h nx l p (nx k l)) ∧ (¬ l < h k → chainOK h nx l p w)
def Linked (s : Sk) (p : List Nat) : Prop := ∀ l, l < 8 → chainOK s.h s.nx l p (s.hd l)

theorem chain_in {h : Nat → Nat} {nx : Nat → Nat → Int} {l k : Nat} {p : List Nat} {w : Int} (hk : l < h k) : chainOK h nx l (k :: p) w ↔ w = (k : Int) + 1 ∧ chainOK h nx l p (nx k l) := by
  rw [chainOK]
  exact ⟨fun q => q.1 hk, fun q => ⟨fun _ => q, fun n => absurd hk n⟩⟩
theorem chain_out {h : Nat → Nat} {nx : Nat → Nat → Int} {l k : Nat} {p : List Nat} {w : Int} (hk : ¬ l < h k) : chainOK h nx l (k :: p) w ↔ chainOK h nx l p w := by
  rw [chainOK]
  exact ⟨fun q => q.2 hk, fun q => ⟨fun n => absurd n hk, fun _ => q⟩⟩
theorem chain_congr {h h' : Nat → Nat} {nx nx' : Nat → Nat → Int} {l : Nat} : ∀ (p : List Nat) (w : Int), (∀ k ∈ p, h k = h' k ∧ (l < h k → nx k l = nx' k l)) → (chainOK h nx l p w ↔ chainOK h' nx' l p w)
  | [], w, _ => Iff.rfl
  | k :: p, w, H => by
    have hk := H k (by simp)
    have ih := fun v => chain_congr (h := h) (h' := h') (nx := nx) (nx' := nx') (l := l) p v (fun j hj => H j (by simp [hj]))
    by_cases q : l < h k
    · rw [chain_in q, chain_in (by rw [← hk.1]; exact q), ih, hk.2 q]
    · rw [chain_out q, chain_out (by rw [← hk.1]; exact q), ih]
theorem chain_skip {h : Nat → Nat} {nx : Nat → Nat → Int} {l : Nat} : ∀ (p q : List Nat) (w : Int), (∀ k ∈ p, ¬ l < h k) → (chainOK h nx l (p ++ q) w ↔ chainOK h nx l q w)
  | [], q, w, _ => Iff.rfl
  | k :: p, q, w, H => by
    rw [List.cons_append, chain_out (H k (by simp)), chain_skip p q w (fun j hj => H j (by simp [hj]))]
theorem chain_suffix {h : Nat → Nat} {nx : Nat → Nat → Int} {l k : Nat} {r : List Nat} : ∀ (p : List Nat) (w : Int), chainOK h nx l (p ++ k :: r) w → l < h k → chainOK h nx l r (nx k l)
  | [], w, H, hk => ((chain_in hk).1 H).2
  | j :: p, w, H, hk => by
    rw [List.cons_append] at H
    by_cases q : l < h j
    · exact chain_suffix p _ ((chain_in q).1 H).2 hk
    · exact chain_suffix p _ ((chain_out q).1 H) hk
/-- What comes behind a node that is so high may be another chain. -/
theorem chain_mid {h h' : Nat → Nat} {nx nx' : Nat → Nat → Int} {l k : Nat} {r r' : List Nat} : ∀ (p : List Nat) (w : Int), chainOK h nx l (p ++ k :: r) w → l < h k → h k = h' k → (∀ j ∈ p, h j = h' j ∧ (l < h j → nx j l = nx' j l)) → chainOK h' nx' l r' (nx' k l) → chainOK h' nx' l (p ++ k :: r') w
  | [], w, H, hk, e, _, B => by
    exact (chain_in (by rw [← e]; exact hk)).2 ⟨((chain_in hk).1 H).1, B⟩
  | j :: p, w, H, hk, e, C, B => by
    rw [List.cons_append] at H ⊢
    have cj := C j (by simp)
    have C' := fun i hi => C i (List.mem_cons_of_mem j hi)
    by_cases q : l < h j
    · have H' := (chain_in q).1 H
      refine (chain_in (by rw [← cj.1]; exact q)).2 ⟨H'.1, ?_⟩
      rw [← cj.2 q]
      exact chain_mid p _ H'.2 hk e C' B
    · exact (chain_out (by rw [← cj.1]; exact q)).2 (chain_mid p _ ((chain_out q).1 H) hk e C' B)
theorem ints_ext {a b : List Int} (hl : a.length = b.length) (h : ∀ i, i < a.length → a.getD i 0 = b.getD i 0) : a = b := by
  refine List.ext_getElem hl (fun i h1 h2 => ?_)
  have := h i h1
  simpa [List.getD, h1, h2] using this

/-! ### the way of a node is set -/
def Sk.set (s : Sk) : Nat → Nat → Int → Sk
  | 0, l, v => { s with head := s.head.set l v }
  | k + 1, l, v => { s with nodes := s.nodes.set k ((s.at' k).1, (s.at' k).2.set l v) }
theorem Sk.set_len (s : Sk) (a l : Nat) (v : Int) : (s.set a l v).nodes.length = s.nodes.length := by cases a <;> simp [Sk.set]
theorem Sk.set_at (s : Sk) (a l : Nat) (v : Int) (j : Nat) : (s.set a l v).at' j = if a = j + 1 ∧ j < s.nodes.length then ((s.at' j).1, (s.at' j).2.set l v) else s.at' j := by
  cases a with
  | zero => simp [Sk.set, Sk.at']
  | succ k =>
    simp only [Sk.set, Sk.at', List.getD, List.getElem?_set]
    by_cases e : k = j
    · subst e
      by_cases h : k < s.nodes.length
      · simp [h]
      · simp [h]
    · have : ¬ (k + 1 = j + 1) := by omega
      simp [e, this]
theorem Sk.set_es (s : Sk) (a l : Nat) (v : Int) : (s.set a l v).es = s.es := by
  cases a with
  | zero => rfl
  | succ k =>
    simp only [Sk.set, Sk.es, List.map_set]
    refine List.ext_getElem (by simp) (fun i h1 h2 => ?_)
    rw [List.getElem_set]
    split
    · rename_i e
      subst e
      simp at h1 h2
      simp [Sk.at', List.getD, h2]
    · rfl
theorem Sk.set_h (s : Sk) (a l : Nat) (v : Int) (j : Nat) : (s.set a l v).h j = s.h j := by
  unfold Sk.h
  rw [Sk.set_at]
  split <;> simp
theorem Sk.set_hs (s : Sk) (a l : Nat) (v : Int) : (s.set a l v).hs = s.hs := by
  refine List.ext_getElem (by simp [Sk.hs, Sk.set_len]) (fun i h1 h2 => ?_)
  have := Sk.set_h s a l v i
  simp only [Sk.hs, List.length_map] at h1 h2
  simpa [Sk.hs, Sk.h, Sk.at', List.getD, h1, h2] using this
theorem Sk.set_head (s : Sk) (a l : Nat) (v : Int) : (s.set a l v).head.length = s.head.length := by cases a <;> simp [Sk.set]
theorem getD_set (m : List Int) (l i : Nat) (v : Int) : (m.set l v).getD i 0 = if i = l ∧ l < m.length then v else m.getD i 0 := by
  simp only [List.getD, List.getElem?_set]
  by_cases e : l = i
  · subst e
    by_cases h : l < m.length
    · simp [h]
    · simp [h]
  · simp [e, Ne.symm e]
theorem Sk.set_nx (s : Sk) (a l : Nat) (v : Int) (j i : Nat) : (s.set a l v).nx j i = if a = j + 1 ∧ j < s.nodes.length ∧ i = l ∧ l < s.h j then v else s.nx j i := by
  unfold Sk.nx
  rw [Sk.set_at]
  by_cases q : a = j + 1 ∧ j < s.nodes.length
  · rw [if_pos q, getD_set]
    simp [q.1, q.2, Sk.h]
  · rw [if_neg q, if_neg (fun r => q ⟨r.1, r.2.1⟩)]
theorem Sk.set_hd (s : Sk) (a l : Nat) (v : Int) (i : Nat) : (s.set a l v).hd i = if a = 0 ∧ i = l ∧ l < s.head.length then v else s.hd i := by
  cases a with
  | zero =>
    simp only [Sk.set, Sk.hd, true_and]
    exact getD_set _ _ _ _
  | succ k => simp [Sk.set, Sk.hd]
end Go.Proofs.Ytekoniaobmapdab

/- The document's heights: how many ways each node has. -/
namespace Go.Proofs.Ytekoniaobmapdab
open Go.RowKit
set_option linter.unusedVariables false

def lenV : Value → Int
  | .slice _ n _ => (n : Int)
  | _ => 0
def hrow (p : En × Value) : List Value := [.int .i64 (lenV p.2)]

end Go.Proofs.Ytekoniaobmapdab

/- Lists of chapter 7 in memory: read, and owned. -/
namespace Go.Proofs.Ytekoniaobmapdab
open Go.RowKit
set_option linter.unusedVariables false
set_option linter.unusedSimpArgs false

/-- The slices vN and vH hold in w the list s; its nodes' ways lie in the slices of es. -/
structure SkE (w : World) (vN vH : Value) (s : Sk) (es : List (En × Value)) : Prop where
  ents : es.map (·.1) = s.es
  nodes : NodesE w vN es
  head : IntsR w vH s.head
  nexts : ∀ k p, es[k]? = some p → IntsR w p.2 (s.at' k).2
theorem SkE.up {w w' : World} {vN vH : Value} {s : Sk} {es : List (En × Value)} (h : SkE w vN vH s es) (hb : Below w.heap.size w w') : SkE w' vN vH s es :=
  ⟨h.ents, h.nodes.up hb, h.head.up hb, fun k p hk => (h.nexts k p hk).up hb⟩
theorem SkE.len {w : World} {vN vH : Value} {s : Sk} {es : List (En × Value)} (h : SkE w vN vH s es) : es.length = s.nodes.length := by
  have := congrArg List.length h.ents
  simpa [Sk.es] using this
/-- The slice of a node's ways, of the head's where the number is 0. -/
def wayV (vH : Value) (es : List (En × Value)) : Nat → Value
  | 0 => vH
  | k + 1 => (es.getD k default).2
def Sk.ways (s : Sk) : Nat → List Int
  | 0 => s.head
  | k + 1 => (s.at' k).2
theorem Sk.way_get (s : Sk) (a l : Nat) : s.way a l = (s.ways a).getD l 0 := by cases a <;> rfl
theorem SkE.way {w : World} {vN vH : Value} {s : Sk} {es : List (En × Value)} (h : SkE w vN vH s es) (a : Nat) (ha : a ≤ s.nodes.length) : IntsR w (wayV vH es a) (s.ways a) := by
  cases a with
  | zero => exact h.head
  | succ k =>
    have hk : k < es.length := by rw [h.len]; omega
    have := h.nexts k es[k] (by simp [hk])
    simp only [wayV, List.getD]
    simpa [hk, Sk.ways] using this
theorem SkE.form {w : World} {vN vH : Value} {s : Sk} {es : List (En × Value)} (h : SkE w vN vH s es) : (∃ a c, vN = .slice a s.nodes.length c) ∧ (∃ a c, vH = .slice a s.head.length c) := by
  obtain ⟨a, c, e, _⟩ := h.nodes.len
  obtain ⟨a', c', e', _⟩ := h.head.len
  rw [h.len] at e
  exact ⟨⟨a, c, e⟩, ⟨a', c', e'⟩⟩
theorem SkE.node {w : World} {a : Option Addr} {n c : Nat} {vH : Value} {s : Sk} {es : List (En × Value)} (h : SkE w (.slice a n c) vH s es) (k : Nat) (hk : k < s.nodes.length) :
    ∃ b off an cn, a = some ⟨b, off, none⟩ ∧ n = s.nodes.length ∧ wayV vH es (k + 1) = .slice an (s.h k) cn ∧ w.cell? ⟨b, off + k * 5, none⟩ = some (.string (s.at' k).1.key) ∧ w.cell? ⟨b, off + k * 5 + 1, none⟩ = some (.int .i64 (s.at' k).1.seq) ∧ w.cell? ⟨b, off + k * 5 + 2, none⟩ = some (.int .i64 (s.at' k).1.kind) ∧ w.cell? ⟨b, off + k * 5 + 3, none⟩ = some (.string (s.at' k).1.val) ∧ w.cell? ⟨b, off + k * 5 + 4, none⟩ = some (.slice an (s.h k) cn) := by
  have hk' : k < es.length := by rw [h.len]; exact hk
  obtain ⟨b, off, cap, x, sx, e, hx, c0, c1, c2, c3, c4⟩ := h.nodes.at k hk'
  simp only [Value.slice.injEq] at e
  obtain ⟨rfl, e2, rfl⟩ := e
  have ex : x = (s.at' k).1 := by
    have h1 := congrArg (fun m => m[k]?) h.ents
    simp only [List.getElem?_map, hx, Sk.es] at h1
    simp [hk] at h1
    simp [Sk.at', List.getD, hk, h1]
  subst ex
  have hw : wayV vH es (k + 1) = sx := by simp [wayV, List.getD, hx]
  have hi := h.nexts k _ hx
  obtain ⟨an, cn, e3, _⟩ := hi.len
  simp only at e3
  subst e3
  exact ⟨b, off, an, cn, rfl, by rw [e2, h.len], hw, c0, c1, c2, c3, c4⟩

/-- The list s in memory of the call's own, its nodes of the type t. -/
structure OwnSk (w : World) (base : Nat) (t : TypeId) (vN vH : Value) (s : Sk) (es : List (En × Value)) : Prop where
  ents : es.map (·.1) = s.es
  nodes : OwnR w base t 5 vN (es.map nrow)
  head : OwnR w base 3 1 vH (s.head.map irow)
  nexts : ∀ k p, es[k]? = some p → OwnR w base 3 1 p.2 ((s.at' k).2.map irow)
  apart : (vH :: es.map (·.2)).Pairwise Apart
theorem OwnSk.read {w : World} {base : Nat} {t : TypeId} {vN vH : Value} {s : Sk} {es : List (En × Value)} (h : OwnSk w base t vN vH s es) : SkE w vN vH s es :=
  ⟨h.ents, Rws.own h.nodes, Rws.own h.head, fun k p hk => Rws.own (h.nexts k p hk)⟩
theorem OwnSk.up {w w' : World} {base : Nat} {t : TypeId} {vN vH : Value} {s : Sk} {es : List (En × Value)} (h : OwnSk w base t vN vH s es) (hb : Below w.heap.size w w') : OwnSk w' base t vN vH s es :=
  ⟨h.ents, h.nodes.up hb, h.head.up hb, fun k p hk => (h.nexts k p hk).up hb, h.apart⟩
theorem OwnSk.mono {w : World} {base base' : Nat} {t : TypeId} {vN vH : Value} {s : Sk} {es : List (En × Value)} (h : OwnSk w base t vN vH s es) (hb : base' ≤ base) : OwnSk w base' t vN vH s es :=
  ⟨h.ents, h.nodes.mono hb, h.head.mono hb, fun k p hk => (h.nexts k p hk).mono hb, h.apart⟩
/-- What is written elsewhere is not felt. -/
theorem OwnSk.far {w w' : World} {base : Nat} {t : TypeId} {vN vH : Value} {s : Sk} {es : List (En × Value)} {r : Option Nat} (h : OwnSk w base t vN vH s es) (hg : w.grownBy w' r) (h1 : vN.ownBlock = none ∨ vN.ownBlock ≠ r) (h2 : vH.ownBlock = none ∨ vH.ownBlock ≠ r) (h3 : ∀ p ∈ es, p.2.ownBlock = none ∨ p.2.ownBlock ≠ r) : OwnSk w' base t vN vH s es :=
  ⟨h.ents, h.nodes.far hg h1, h.head.far hg h2, fun k p hk => (h.nexts k p hk).far hg (h3 p (List.mem_of_getElem? hk)), h.apart⟩
theorem OwnR.ne_lt {w : World} {base : Nat} {e : TypeId} {sz : Nat} {v : Value} {css : List (List Value)} (h : OwnR w base e sz v css) {r : Nat} (hr : r < base) : v.ownBlock = none ∨ v.ownBlock ≠ some r := by
  cases hv : v.ownBlock with
  | none => exact .inl rfl
  | some b =>
    refine .inr (fun q => ?_)
    injection q with q
    have := (h.2.lt b hv).1
    omega
theorem OwnSk.block {w w' : World} {base : Nat} {t T : TypeId} {vN vH : Value} {s : Sk} {es : List (En × Value)} {r : Nat} {cs : Array Value} {fr : Nat × Nat} (h : OwnSk w base t vN vH s es) (hb : w.heap[r]? = some (.cells cs T fr)) (h1 : t ≠ T) (h2 : 3 ≠ T) (hg : w.grownBy w' (some r)) : OwnSk w' base t vN vH s es :=
  h.far hg (own_blk_ne h.nodes.2 hb h1) (own_blk_ne h.head.2 hb h2) (fun p hp => by
    obtain ⟨k, hk⟩ := List.mem_iff_getElem?.1 hp
    exact own_blk_ne (h.nexts k p hk).2 hb h2)

theorem irow_set (l : List Int) (i : Nat) (v : Int) (hi : i < l.length) : (l.map irow).set i (((l.map irow).getD i []).set 0 (.int .i64 v)) = (l.set i v).map irow := by
  rw [List.map_set]
  congr 1
  simp [List.getD, hi, irow]
theorem OwnR.block {w : World} {base : Nat} {e : TypeId} {sz : Nat} {v : Value} {css : List (List Value)} (h : OwnR w base e sz v css) (hne : css ≠ []) : ∃ g cap, v = .slice (some ⟨g, 0, none⟩) css.length cap ∧ base ≤ g ∧ g < w.heap.size := by
  have h2 := h.2.2
  rcases h2 with ⟨rfl, h0⟩ | ⟨g, cap, cur, rfl, hg, hh, r⟩
  · exact absurd (List.length_eq_zero_iff.1 h0) hne
  · exact ⟨g, cap, rfl, hg, blk_lt hh⟩
/-- The way of a node, or of the head, is set. -/
theorem OwnSk.set {w : World} {base : Nat} {t : TypeId} {vN vH : Value} {s : Sk} {es : List (En × Value)} (h : OwnSk w base t vN vH s es) (ht : t ≠ 3) (a : Nat) (ha : a ≤ s.nodes.length) (l : Nat) (hl : l < (s.ways a).length) :
    ∃ g cap, wayV vH es a = .slice (some ⟨g, 0, none⟩) (s.ways a).length cap ∧ base ≤ g ∧ g < w.heap.size ∧ w.cell? ⟨g, l, none⟩ = some (.int .i64 (s.way a l)) ∧ w.frozen? ⟨g, l, none⟩ = false ∧
      ∀ v : Int, OwnSk (w.setCell ⟨g, l, none⟩ (.int .i64 v)) base t vN vH (s.set a l v) es ∧ w.grownBy (w.setCell ⟨g, l, none⟩ (.int .i64 v)) (some g) := by
  have hR := h.read.way a ha
  have hO : OwnR w base 3 1 (wayV vH es a) ((s.ways a).map irow) := by
    cases a with
    | zero => exact h.head
    | succ k =>
      have hk : k < es.length := by rw [h.read.len]; omega
      have := h.nexts k es[k] (by simp [hk])
      simp only [wayV, List.getD]
      simpa [hk, Sk.ways] using this
  obtain ⟨g, cap, e, hg1, hg2⟩ := hO.block (by intro q; rw [List.map_eq_nil_iff] at q; rw [q] at hl; simp at hl)
  simp only [List.length_map] at e
  rw [e] at hO hR
  obtain ⟨b, off, cap', n, e2, hn, hc⟩ := hR.at l hl
  simp only [Value.slice.injEq, Option.some.injEq, Addr.mk.injEq] at e2
  obtain ⟨⟨rfl, rfl, _⟩, _, rfl⟩ := e2
  have hS := fun v : Int => hO.set (by simp) l hl 0 (by omega) (.int .i64 v)
  have hw : s.way a l = n := by rw [Sk.way_get]; simp [List.getD, hn]
  refine ⟨g, cap, e, hg1, hg2, by rw [hw]; simpa using hc, ?_, fun v => ?_⟩
  · have := (hS 0).2.2
    simpa using this
  · have hS1 := (hS v).1
    have hG := (hS v).2.1
    rw [irow_set _ _ _ hl] at hS1
    simp only [Nat.mul_one, Nat.add_zero] at hS1 hG
    refine ⟨⟨?_, ?_, ?_, ?_, h.apart⟩, hG⟩
    · rw [Sk.set_es]; exact h.ents
    · refine h.nodes.far hG ?_
      have := own_own_ne h.nodes.2 hO.2 ht
      simpa [Value.ownBlock] using this
    · cases a with
      | zero =>
        simp only [wayV] at e
        rw [e]
        exact hS1
      | succ k =>
        refine h.head.far hG ?_
        have hk : k < es.length := by rw [h.read.len]; omega
        have ap := (List.pairwise_cons.1 h.apart).1 (es[k]).2 (List.mem_map.2 ⟨es[k], by simp, rfl⟩)
        have e3 : es[k].2 = .slice (some ⟨g, 0, none⟩) (s.ways (k + 1)).length cap := by
          rw [← e]; simp [wayV, List.getD, hk]
        rw [e3] at ap
        simpa [Apart, Value.ownBlock] using ap
    · intro j p hj
      have hold := h.nexts j p hj
      have hj' : j < es.length := (List.getElem?_eq_some_iff.1 hj).1
      have hjn : j < s.nodes.length := by rw [← h.read.len]; exact hj'
      rw [Sk.set_at]
      by_cases q : a = j + 1
      · subst q
        rw [if_pos ⟨rfl, hjn⟩]
        have e3 : p.2 = .slice (some ⟨g, 0, none⟩) (s.ways (j + 1)).length cap := by
          rw [← e]; simp [wayV, List.getD, hj]
        rw [e3]
        exact hS1
      · rw [if_neg (fun r => q r.1)]
        refine hold.far hG ?_
        have ap : Apart p.2 (wayV vH es a) := by
          cases a with
          | zero =>
            exact ((List.pairwise_cons.1 h.apart).1 p.2 (List.mem_map.2 ⟨p, List.mem_of_getElem? hj, rfl⟩)).symm
          | succ k =>
            have hk : k < es.length := by rw [h.read.len]; omega
            have pw := (List.pairwise_cons.1 h.apart).2
            have hkj : k ≠ j := by omega
            have hpj : p = es[j] := by
              have := List.getElem?_eq_some_iff.1 hj
              exact this.2.symm
            have hwk : wayV vH es (k + 1) = es[k].2 := by simp [wayV, List.getD, hk]
            rw [hwk, hpj]
            rw [List.pairwise_iff_getElem] at pw
            rcases Nat.lt_or_ge j k with r | r
            · have := pw j k (by simpa using hj') (by simpa using hk) r
              simpa using this
            · have := pw k j (by simpa using hk) (by simpa using hj') (by omega)
              exact (by simpa using this : Apart es[k].2 es[j].2).symm
        rw [e] at ap
        simpa [Apart, Value.ownBlock] using ap
end Go.Proofs.Ytekoniaobmapdab

/- A node is added to a list of one's own; the results of functions that return a list. -/
namespace Go.Proofs.Ytekoniaobmapdab
open Go.RowKit
set_option linter.unusedVariables false
set_option linter.unusedSimpArgs false

theorem Try.info139 : (Try.prog.info? 139).map (fun i => (i.zero, i.size, i.bytes)) = some (some (.agg #[.string ⟨#[]⟩, .int .i64 0, .int .i64 0, .string ⟨#[]⟩, .slice none 0 0]), 5, 72) := by kernel_rfl
def Sk.snoc (s : Sk) (y : En) (nx : List Int) : Sk := ⟨s.nodes ++ [(y, nx)], s.head⟩
theorem Sk.snoc_at (s : Sk) (y : En) (nx : List Int) (k : Nat) (hk : k < s.nodes.length) : (s.snoc y nx).at' k = s.at' k := by
  simp [Sk.snoc, Sk.at', List.getD, List.getElem?_append_left hk]
theorem Sk.snoc_last (s : Sk) (y : En) (nx : List Int) : (s.snoc y nx).at' s.nodes.length = (y, nx) := by
  simp [Sk.snoc, Sk.at', List.getD]
theorem Sk.snoc_es (s : Sk) (y : En) (nx : List Int) : (s.snoc y nx).es = s.es ++ [y] := by simp [Sk.snoc, Sk.es]
theorem Sk.snoc_len (s : Sk) (y : En) (nx : List Int) : (s.snoc y nx).nodes.length = s.nodes.length + 1 := by simp [Sk.snoc]

theorem OwnR.apart_new {w w' : World} {b1 : Nat} {e1 e2 : TypeId} {s1 s2 : Nat} {v1 v2 : Value} {x1 x2 : List (List Value)} (h1 : OwnR w b1 e1 s1 v1 x1) (h2 : OwnR w' w.heap.size e2 s2 v2 x2) : Apart v1 v2 := by
  unfold Apart
  cases hv : v1.ownBlock with
  | none => exact .inl rfl
  | some b =>
    refine .inr ?_
    intro q
    have a1 := (h1.2.lt b hv).2
    have a2 := (h2.2.lt b q.symm).1
    omega
theorem OwnSk.apart_new {w w' : World} {base : Nat} {t e2 : TypeId} {s2 : Nat} {vN vH v2 : Value} {s : Sk} {es : List (En × Value)} {x2 : List (List Value)} (h : OwnSk w base t vN vH s es) (h2 : OwnR w' w.heap.size e2 s2 v2 x2) : Apart vH v2 ∧ ∀ p ∈ es, Apart p.2 v2 :=
  ⟨h.head.apart_new h2, fun p hp => by
    obtain ⟨k, hk⟩ := List.mem_iff_getElem?.1 hp
    exact (h.nexts k p hk).apart_new h2⟩

/-- A node is added: the slice of the nodes grows, and its new value is stored. -/
theorem OwnSk.addRow {w w1 : World} {base T : Nat} {tN tS : TypeId} {vN vH v' vI : Value} {s : Sk} {es : List (En × Value)} {y : En} {nx : List Int} (h : OwnSk w base tN vN vH s es) (hT : w.heap[T]? = some (.cells #[vN, vH] tS)) (ne1 : tN ≠ 3) (ne2 : tS ≠ 3) (ne3 : tN ≠ tS)
    (hI : OwnR w base 3 1 vI (nx.map irow)) (hap : Apart vH vI ∧ ∀ p ∈ es, Apart p.2 vI) (hg : w.grownBy w1 vN.ownBlock) (ho : OwnR w1 base tN 5 v' (es.map nrow ++ [nrow (y, vI)])) :
    w1.heap[T]? = some (.cells #[vN, vH] tS) ∧ (w1.setCell ⟨T, 0, none⟩ v').heap[T]? = some (.cells #[v', vH] tS) ∧ OwnSk (w1.setCell ⟨T, 0, none⟩ v') base tN v' vH (s.snoc y nx) (es ++ [(y, vI)]) ∧ ∀ B, B ≤ base → B ≤ T → B ≤ w.heap.size → Below B w (w1.setCell ⟨T, 0, none⟩ v') := by
  have nT : some T ≠ vN.ownBlock := by
    rcases own_blk_ne h.nodes.2 hT ne3 with q | q
    · rw [q]; simp
    · exact fun e => q e.symm
  have b1 := blk_grown hT hg nT
  have g2 := grown_set w1 ⟨T, 0, none⟩ v'
  have hH1 := h.head.far hg (own_own_ne h.head.2 h.nodes.2 (Ne.symm ne1))
  have hI1 := hI.far hg (own_own_ne hI.2 h.nodes.2 (Ne.symm ne1))
  refine ⟨b1, ?_, ⟨?_, ?_, ?_, ?_, ?_⟩, ?_⟩
  · have := blk_set b1 0 v'
    simp only [List.setIfInBounds_toArray, List.set_cons_zero] at this
    exact this
  · rw [Sk.snoc_es, List.map_append, h.ents]
    rfl
  · rw [List.map_append]
    exact ho.far g2 (own_blk_ne ho.2 b1 ne3)
  · exact hH1.far g2 (own_blk_ne hH1.2 b1 (Ne.symm ne2))
  · intro k p hk
    have hl := h.read.len
    by_cases q : k < es.length
    · rw [List.getElem?_append_left q] at hk
      have a := h.nexts k p hk
      have a1 := a.far hg (own_own_ne a.2 h.nodes.2 (Ne.symm ne1))
      rw [Sk.snoc_at _ _ _ _ (by omega)]
      exact a1.far g2 (own_blk_ne a1.2 b1 (Ne.symm ne2))
    · have hk' := (List.getElem?_eq_some_iff.1 hk).1
      simp only [List.length_append, List.length_cons, List.length_nil] at hk'
      obtain rfl : k = es.length := by omega
      simp at hk
      subst hk
      rw [hl, Sk.snoc_last]
      exact hI1.far g2 (own_blk_ne hI1.2 b1 (Ne.symm ne2))
  · have e : (vH :: List.map (fun x => x.2) (es ++ [(y, vI)])) = (vH :: es.map (·.2)) ++ [vI] := by simp
    rw [e, List.pairwise_append]
    refine ⟨h.apart, by simp, fun a ha b hb => ?_⟩
    simp at hb
    subst hb
    rcases List.mem_cons.1 ha with rfl | r
    · exact hap.1
    · obtain ⟨p, hp, rfl⟩ := List.mem_map.1 r
      exact hap.2 p hp
  · intro B h1 h2 h3
    refine ((Below.refl B w).grown hg h3 (fun k hk => ?_)).grown g2 (Nat.le_trans h3 hg.size) (fun k hk => ?_)
    · have := (h.nodes.2.lt k hk).1
      omega
    · injection hk with hk
      rw [← hk]
      exact h2
theorem nrow_one {w : World} (y : En) (a : Option Addr) (n c : Nat) : ∀ cs ∈ [nrow (y, .slice a n c)], ∀ u ∈ cs, u.oneCell' = true := by
  intro cs hcs u hu
  simp at hcs
  subst hcs
  simp [nrow, enRow] at hu
  rcases hu with rfl | rfl | rfl | rfl | rfl <;> rfl
theorem results_st {fn : Func} {q : Nat} {t : TypeId} (h : fn.results = #[.cell q t]) (hl : t = 116 ∨ t = 116) (tmps : Array Value) (w : World) {N : Nat} {a b : Value} (ht : tmps.getD q undef = .pointer (some ⟨N, 0, none⟩))
    (hc : w.heap[N]? = some (.cells #[a, b] t)) : (results fn tmps).run Try.prog w = .ok (.agg #[a, b]) w := by
  have c0 := blk_cell hc 0 a rfl
  have c1 := blk_cell hc 1 b rfl
  have ht' : tmps[q]?.getD undef = .pointer (some ⟨N, 0, none⟩) := by simpa using ht
  rcases hl with rfl | rfl
  · simp only [results, h]
    simp [ht', go_sem, c0, c1]
  · simp only [results, h]
    simp [ht', go_sem, c0, c1]
theorem results_st2 {fn : Func} {q r : Nat} {t : TypeId} (h : fn.results = #[.cell q t, .tmp r]) (hl : t = 116 ∨ t = 116) (tmps : Array Value) (w : World) {N : Nat} {a b : Value} (ht : tmps.getD q undef = .pointer (some ⟨N, 0, none⟩))
    (hc : w.heap[N]? = some (.cells #[a, b] t)) : (results fn tmps).run Try.prog w = .ok (.tuple #[.agg #[a, b], tmps.getD r undef]) w := by
  have c0 := blk_cell hc 0 a rfl
  have c1 := blk_cell hc 1 b rfl
  have ht' : tmps[q]?.getD undef = .pointer (some ⟨N, 0, none⟩) := by simpa using ht
  rcases hl with rfl | rfl
  · simp only [results, h]
    simp [ht', go_sem, c0, c1]
  · simp only [results, h]
    simp [ht', go_sem, c0, c1]
theorem set2_blk {w : World} {N : Nat} {t : TypeId} {x0 x1 : Value} (h : w.heap[N]? = some (.cells #[x0, x1] t)) (a b : Value) : ((w.setCell ⟨N, 0, none⟩ a).setCell ⟨N, 1, none⟩ b).heap[N]? = some (.cells #[a, b] t) := by
  have := blk_set (blk_set h 0 a) 1 b
  simpa only [List.setIfInBounds_toArray, List.set_cons_zero, List.set_cons_succ] using this
theorem set2_grown (w : World) (N : Nat) (a b : Value) : w.grownBy ((w.setCell ⟨N, 0, none⟩ a).setCell ⟨N, 1, none⟩ b) (some N) :=
  grown_trans (grown_set w ⟨N, 0, none⟩ a) (grown_set _ ⟨N, 1, none⟩ b)
/-- A list in memory of one's own, its value in a block. -/
def OpenK (w : World) (base T : Nat) (tN tS : TypeId) (vN vH : Value) (s : Sk) (es : List (En × Value)) : Prop := w.heap[T]? = some (.cells #[vN, vH] tS) ∧ OwnSk w base tN vN vH s es
theorem OpenK.up {w w' : World} {base T : Nat} {tN tS : TypeId} {vN vH : Value} {s : Sk} {es : List (En × Value)} (h : OpenK w base T tN tS vN vH s es) (hb : Below w.heap.size w w') : OpenK w' base T tN tS vN vH s es := ⟨blk_up h.1 hb, h.2.up hb⟩
end Go.Proofs.Ytekoniaobmapdab
