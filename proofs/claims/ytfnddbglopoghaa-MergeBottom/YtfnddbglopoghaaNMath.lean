/- Layer 13, plain: versions in order, by key, thinned, seen, merged. -/
import Derived.Test.YtfnddbglopoghaaLBase
namespace Go.Proofs.Ytfnddbglopoghaa
open Go.RowKit
set_option linter.unusedVariables false
set_option linter.unusedSimpArgs false

/-! ### versions in order -/
def KL (x : En) : List UInt8 := x.key.toList
theorem blN_self : ∀ l : List UInt8, Op.bytesLess l l = false
  | [] => rfl
  | x :: l => by simp [Op.bytesLess, blN_self l]
theorem blN_trans : ∀ a b c : List UInt8, Op.bytesLess a b = true → Op.bytesLess b c = true → Op.bytesLess a c = true
  | _, [], _, h, _ => by simp [Op.bytesLess] at h
  | _, _ :: _, [], _, h => by simp [Op.bytesLess] at h
  | [], _ :: _, _ :: _, _, _ => by simp [Op.bytesLess]
  | x :: a, y :: b, z :: c, h, k => by
    simp only [Op.bytesLess, Bool.or_eq_true, decide_eq_true_eq, Bool.and_eq_true, beq_iff_eq] at h k ⊢
    rcases h with h | ⟨rfl, h⟩
    · rcases k with k | ⟨rfl, k⟩
      · exact .inl (UInt8.lt_trans h k)
      · exact .inl h
    · rcases k with k | ⟨rfl, k⟩
      · exact .inl k
      · exact .inr ⟨rfl, blN_trans a b c h k⟩
theorem blN_total : ∀ a b : List UInt8, Op.bytesLess a b = false → Op.bytesLess b a = false → a = b
  | [], [], _, _ => rfl
  | [], _ :: _, h, _ => by simp [Op.bytesLess] at h
  | _ :: _, [], _, h => by simp [Op.bytesLess] at h
  | x :: a, y :: b, h, k => by
    simp only [Op.bytesLess, Bool.or_eq_false_iff, decide_eq_false_iff_not, Bool.and_eq_false_iff, beq_eq_false_iff_ne] at h k
    have e : x = y := UInt8.le_antisymm (UInt8.not_lt.1 k.1) (UInt8.not_lt.1 h.1)
    subst e
    have h2 : Op.bytesLess a b = false := by rcases h.2 with q | q; exact absurd rfl q; exact q
    have k2 : Op.bytesLess b a = false := by rcases k.2 with q | q; exact absurd rfl q; exact q
    rw [blN_total a b h2 k2]
theorem bef_iff {a b : En} : beforeE a b = true ↔ Op.bytesLess (KL a) (KL b) = true ∨ (KL a = KL b ∧ b.seq < a.seq) := by
  unfold beforeE KL
  simp only [Bool.or_eq_true, Bool.and_eq_true, beq_iff_eq, decide_eq_true_eq]
theorem bef_self (a : En) : ¬ beforeE a a = true := by
  rw [bef_iff, blN_self]
  rintro (h | h)
  · cases h
  · omega
theorem bef_trans {a b c : En} (h : beforeE a b = true) (k : beforeE b c = true) : beforeE a c = true := by
  rw [bef_iff] at *
  rcases h with h | ⟨h1, h2⟩ <;> rcases k with k | ⟨k1, k2⟩
  · exact .inl (blN_trans _ _ _ h k)
  · rw [← k1]; exact .inl h
  · rw [h1]; exact .inl k
  · exact .inr ⟨h1.trans k1, by omega⟩
theorem bef_asym {a b : En} (h : beforeE a b = true) : ¬ beforeE b a = true := fun k => bef_self a (bef_trans h k)
/-- One key and number. -/
def TwinE (a b : En) : Prop := KL a = KL b ∧ a.seq = b.seq
theorem bef_total {a b : En} (h : ¬ beforeE a b = true) (k : ¬ beforeE b a = true) : TwinE a b := by
  rw [bef_iff] at h k
  have h1 : Op.bytesLess (KL a) (KL b) = false := by
    cases q : Op.bytesLess (KL a) (KL b) with
    | false => rfl
    | true => exact absurd (.inl q) h
  have k1 : Op.bytesLess (KL b) (KL a) = false := by
    cases q : Op.bytesLess (KL b) (KL a) with
    | false => rfl
    | true => exact absurd (.inl q) k
  have e := blN_total _ _ h1 k1
  refine ⟨e, ?_⟩
  have a1 : ¬ b.seq < a.seq := fun q => h (.inr ⟨e, q⟩)
  have a2 : ¬ a.seq < b.seq := fun q => k (.inr ⟨e.symm, q⟩)
  omega
theorem twin_not {a b : En} (h : TwinE a b) : ¬ beforeE a b = true := by
  rw [bef_iff, h.1, blN_self]
  rintro (q | q)
  · cases q
  · have := h.2; omega
def Asc (l : List En) : Prop := l.Pairwise fun a b => beforeE a b = true
def aheadE (p : Option En) (x : En) : Bool := match p with | none => true | some y => beforeE y x
def ordE : Option En → List En → Int
  | _, [] => 0
  | p, x :: r => if mayE x then (if aheadE p x then ordE (some x) r else 81) else 1
theorem ord_some : ∀ (l : List En) (y : En), ordE (some y) l = 0 ↔ (∀ x ∈ l, mayE x = true) ∧ Asc (y :: l)
  | [], y => by simp [ordE, Asc]
  | x :: r, y => by
    unfold ordE
    by_cases hm : mayE x = true
    · rw [if_pos hm]
      by_cases hb : beforeE y x = true
      · rw [if_pos (by unfold aheadE; exact hb), ord_some r x]
        constructor
        · rintro ⟨h1, h2⟩
          refine ⟨fun z hz => ?_, ?_⟩
          · rcases List.mem_cons.1 hz with rfl | hz
            · exact hm
            · exact h1 z hz
          · refine List.pairwise_cons.2 ⟨fun z hz => ?_, h2⟩
            rcases List.mem_cons.1 hz with rfl | hz
            · exact hb
            · exact bef_trans hb ((List.pairwise_cons.1 h2).1 z hz)
        · rintro ⟨h1, h2⟩
          exact ⟨fun z hz => h1 z (List.mem_cons_of_mem _ hz), (List.pairwise_cons.1 h2).2⟩
      · rw [if_neg (by unfold aheadE; exact hb)]
        constructor
        · intro h; cases h
        · rintro ⟨_, h2⟩
          exact absurd ((List.pairwise_cons.1 h2).1 x List.mem_cons_self) hb
    · rw [if_neg hm]
      constructor
      · intro h; cases h
      · rintro ⟨h1, _⟩
        exact absurd (h1 x List.mem_cons_self) hm
def ordL (l : List En) : Int := ordE none l
theorem ord_iff (l : List En) : ordL l = 0 ↔ (∀ x ∈ l, mayE x = true) ∧ Asc l := by
  unfold ordL
  cases l with
  | nil => simp [ordE, Asc]
  | cons x r =>
    unfold ordE
    by_cases hm : mayE x = true
    · rw [if_pos hm, if_pos (show aheadE none x = true from rfl), ord_some]
      constructor
      · rintro ⟨h1, h2⟩
        refine ⟨fun z hz => ?_, h2⟩
        rcases List.mem_cons.1 hz with rfl | hz
        · exact hm
        · exact h1 z hz
      · rintro ⟨h1, h2⟩
        exact ⟨fun z hz => h1 z (List.mem_cons_of_mem _ hz), h2⟩
    · rw [if_neg hm]
      constructor
      · intro h; cases h
      · rintro ⟨h1, _⟩
        exact absurd (h1 x List.mem_cons_self) hm
theorem ord_sub {l m : List En} (h : ordL l = 0) (hs : m.Sublist l) : ordL m = 0 := by
  rw [ord_iff] at *
  exact ⟨fun x hx => h.1 x (hs.subset hx), h.2.sublist hs⟩
theorem asc_unique : ∀ (a b : List En), Asc a → Asc b → (∀ x, x ∈ a ↔ x ∈ b) → a = b
  | [], [], _, _, _ => rfl
  | [], y :: b, _, _, h => by have := (h y).2 List.mem_cons_self; cases this
  | x :: a, [], _, _, h => by have := (h x).1 List.mem_cons_self; cases this
  | x :: a, y :: b, ha, hb, h => by
    have e : x = y := by
      rcases List.mem_cons.1 ((h x).1 List.mem_cons_self) with q | q
      · exact q
      · rcases List.mem_cons.1 ((h y).2 List.mem_cons_self) with q2 | q2
        · exact q2.symm
        · exact absurd ((List.pairwise_cons.1 ha).1 y q2) (bef_asym ((List.pairwise_cons.1 hb).1 x q))
    subst e
    rw [asc_unique a b (List.pairwise_cons.1 ha).2 (List.pairwise_cons.1 hb).2 (fun z => ?_)]
    constructor
    · intro hz
      rcases List.mem_cons.1 ((h z).1 (List.mem_cons_of_mem _ hz)) with q | q
      · subst q
        exact absurd ((List.pairwise_cons.1 ha).1 z hz) (bef_self z)
      · exact q
    · intro hz
      rcases List.mem_cons.1 ((h z).2 (List.mem_cons_of_mem _ hz)) with q | q
      · subst q
        exact absurd ((List.pairwise_cons.1 hb).1 z hz) (bef_self z)
      · exact q

/-! ### the versions of a key -/
def sameK (x y : En) : Bool := y.key.toList == x.key.toList
theorem sameK_iff {x y : En} : sameK x y = true ↔ KL y = KL x := by unfold sameK KL; exact beq_iff_eq
def groupsM : List En → List (List En)
  | [] => []
  | x :: r => (x :: r.takeWhile (sameK x)) :: groupsM (r.dropWhile (sameK x))
termination_by l => l.length
decreasing_by
  have := (List.dropWhile_sublist (sameK x) (l := r)).length_le
  simp only [List.length_cons]
  omega
def SameG (g : List En) : Prop := g ≠ [] ∧ ∀ x ∈ g, ∀ y ∈ g, KL x = KL y
def Grps (gs : List (List En)) : Prop := (∀ g ∈ gs, SameG g) ∧ gs.Pairwise fun g h => ∀ x ∈ g, ∀ y ∈ h, KL x ≠ KL y
theorem groups_flat : ∀ (n : Nat) (l : List En), l.length ≤ n → (groupsM l).flatten = l
  | _, [], _ => by unfold groupsM; rfl
  | 0, x :: r, h => by simp at h
  | n + 1, x :: r, h => by
    unfold groupsM
    have := (List.dropWhile_sublist (sameK x) (l := r)).length_le
    rw [List.flatten_cons, groups_flat n _ (by simp only [List.length_cons] at h; omega), List.cons_append, List.takeWhile_append_dropWhile]
theorem groups_join (l : List En) : (groupsM l).flatten = l := groups_flat l.length l (Nat.le_refl _)
theorem take_same (x : En) (r : List En) : ∀ y ∈ r.takeWhile (sameK x), KL y = KL x := by
  induction r with
  | nil => intro y hy; cases hy
  | cons z r ih =>
    intro y hy
    rw [List.takeWhile_cons] at hy
    split at hy
    · next q =>
      rcases List.mem_cons.1 hy with rfl | hy
      · exact sameK_iff.1 q
      · exact ih y hy
    · cases hy
theorem drop_other {x : En} : ∀ (r : List En), Asc (x :: r) → ∀ y ∈ r.dropWhile (sameK x), KL x ≠ KL y
  | [], _, y, hy => by cases hy
  | z :: r, h, y, hy => by
    rw [List.dropWhile_cons] at hy
    have h1 := List.pairwise_cons.1 h
    have h2 := List.pairwise_cons.1 h1.2
    split at hy
    · exact drop_other r (List.pairwise_cons.2 ⟨fun w hw => h1.1 w (List.mem_cons_of_mem _ hw), h2.2⟩) y hy
    · next q =>
      have hz : Op.bytesLess (KL x) (KL z) = true := by
        rcases bef_iff.1 (h1.1 z List.mem_cons_self) with k | k
        · exact k
        · exact absurd (sameK_iff.2 k.1.symm) q
      have hne : ∀ w : En, Op.bytesLess (KL x) (KL w) = true → KL x ≠ KL w := fun w k e => by rw [← e, blN_self] at k; cases k
      rcases List.mem_cons.1 hy with rfl | hy
      · exact hne _ hz
      · rcases bef_iff.1 (h2.1 y hy) with k | k
        · exact hne _ (blN_trans _ _ _ hz k)
        · rw [← k.1]; exact hne _ hz
theorem groups_grps : ∀ (n : Nat) (l : List En), l.length ≤ n → Asc l → Grps (groupsM l)
  | _, [], _, _ => by unfold groupsM; exact ⟨fun g hg => (by cases hg), List.Pairwise.nil⟩
  | 0, x :: r, h, _ => by simp at h
  | n + 1, x :: r, h, ha => by
    unfold groupsM
    have hs := List.dropWhile_sublist (sameK x) (l := r)
    have hl := hs.length_le
    have ih := groups_grps n (r.dropWhile (sameK x)) (by simp only [List.length_cons] at h; omega) ((List.pairwise_cons.1 ha).2.sublist hs)
    have hx : ∀ y ∈ x :: r.takeWhile (sameK x), KL y = KL x := fun y hy => by
      rcases List.mem_cons.1 hy with rfl | hy
      · rfl
      · exact take_same x r y hy
    refine ⟨fun g hg => ?_, List.pairwise_cons.2 ⟨fun g hg a ha' b hb => ?_, ih.2⟩⟩
    · rcases List.mem_cons.1 hg with rfl | hg
      · exact ⟨by simp, fun a ha b hb => (hx a ha).trans (hx b hb).symm⟩
      · exact ih.1 g hg
    · rw [hx a ha']
      have hm : b ∈ (groupsM (r.dropWhile (sameK x))).flatten := List.mem_flatten.2 ⟨g, hg, hb⟩
      rw [groups_join] at hm
      exact drop_other r ha b hm
theorem take_all {p : En → Bool} : ∀ (a b : List En), (∀ y ∈ a, p y = true) → (∀ y ∈ b, p y = false) → (a ++ b).takeWhile p = a ∧ (a ++ b).dropWhile p = b
  | [], [], _, _ => ⟨rfl, rfl⟩
  | [], y :: b, _, h => by
    have := h y List.mem_cons_self
    constructor
    · simp [List.takeWhile_cons, this]
    · simp [List.dropWhile_cons, this]
  | x :: a, b, h1, h2 => by
    have hx := h1 x List.mem_cons_self
    have ih := take_all a b (fun y hy => h1 y (List.mem_cons_of_mem _ hy)) h2
    constructor
    · simp [List.takeWhile_cons, hx, ih.1]
    · simp [List.dropWhile_cons, hx, ih.2]
theorem groups_of : ∀ (gs : List (List En)), Grps gs → groupsM gs.flatten = gs
  | [], _ => by unfold groupsM; rfl
  | g :: gs, h => by
    obtain ⟨hne, hsame⟩ := h.1 g List.mem_cons_self
    cases g with
    | nil => exact absurd rfl hne
    | cons x r =>
      have hp := List.pairwise_cons.1 h.2
      have hb : ∀ y ∈ gs.flatten, sameK x y = false := fun y hy => by
        obtain ⟨k, hk, hyk⟩ := List.mem_flatten.1 hy
        have := hp.1 k hk x List.mem_cons_self y hyk
        cases q : sameK x y with
        | false => rfl
        | true => exact absurd (sameK_iff.1 q).symm this
      have ha : ∀ y ∈ r, sameK x y = true := fun y hy => sameK_iff.2 (hsame y (List.mem_cons_of_mem _ hy) x List.mem_cons_self)
      obtain ⟨t1, t2⟩ := take_all r gs.flatten ha hb
      rw [List.flatten_cons, List.cons_append]
      unfold groupsM
      rw [t1, t2, groups_of gs ⟨fun k hk => h.1 k (List.mem_cons_of_mem _ hk), hp.2⟩]
/-- In a list that is in order a group's numbers fall. -/
def Falls (g : List En) : Prop := g.Pairwise fun a b => b.seq < a.seq
theorem group_falls {l g : List En} (h : Asc l) (hg : g ∈ groupsM l) : Falls g := by
  have hs : g.Sublist l := by rw [← groups_join l]; exact List.sublist_flatten_of_mem hg
  have hG := (groups_grps l.length l (Nat.le_refl _) h).1 g hg
  refine List.Pairwise.imp_of_mem (R := fun a b => beforeE a b = true) ?_ (h.sublist hs)
  intro a b ha hb hab
  rcases bef_iff.1 hab with k | k
  · rw [hG.2 a ha b hb, blN_self] at k; cases k
  · exact k.2
theorem falls_inj {g : List En} (h : Falls g) : ∀ x ∈ g, ∀ y ∈ g, x.seq = y.seq → x = y := by
  induction g with
  | nil => intro x hx; cases hx
  | cons a r ih =>
    have h1 := List.pairwise_cons.1 h
    intro x hx y hy e
    rcases List.mem_cons.1 hx with ex | hx1
    · rcases List.mem_cons.1 hy with ey | hy1
      · exact ex.trans ey.symm
      · have := h1.1 y hy1
        rw [ex] at e
        omega
    · rcases List.mem_cons.1 hy with ey | hy1
      · have := h1.1 x hx1
        rw [ey] at e
        omega
      · exact ih h1.2 x hx1 y hy1 e

/-! ### thinned -/
def seesM (g : List En) (s : Int) : Option En := g.find? (fun x => decide (x.seq ≤ s))
def stayM (g : List En) (snaps : List Int) (x : En) : Bool := (g.head?.map (·.seq) == some x.seq) || snaps.any (fun s => (seesM g s).map (·.seq) == some x.seq)
def keptM (g : List En) (snaps : List Int) : List En := g.filter (stayM g snaps)
/-- The last ones of Kind 2 go. -/
def cutM : List En → List En
  | [] => []
  | x :: r => match cutM r with
    | [] => if x.kind = 2 then [] else [x]
    | y :: q => x :: y :: q
def oneM (snaps : List Int) (bottom : Bool) (g : List En) : List En := if bottom = true then cutM (keptM g snaps) else keptM g snaps
def thinL (l : List En) (snaps : List Int) (bottom : Bool) : List En := ((groupsM l).map (oneM snaps bottom)).flatten
def thinE (l : List En) (snaps : List Int) : Int := if ordL l ≠ 0 then ordL l else if 16 < snaps.length then 3 else if snaps.any (fun s => decide (s < 0 ∨ 1099511627776 < s)) = true then 4 else 0
def thinM (l : List En) (snaps : List Int) (bottom : Bool) : List En := if thinE l snaps = 0 then thinL l snaps bottom else []
structure Pa where
  key : ByteArray
  val : ByteArray
def paOf (x : En) : Option Pa := if x.kind = 1 then some ⟨x.key, x.val⟩ else none
def seeP (s : Int) (g : List En) : Option Pa := (seesM g s).bind paOf
def seenL (l : List En) (s : Int) : List Pa := (groupsM l).filterMap (seeP s)
def seenM (l : List En) (s : Int) : List Pa := if ordL l = 0 then seenL l s else []

theorem cut_split : ∀ l : List En, ∃ t, l = cutM l ++ t ∧ ∀ x ∈ t, x.kind = 2
  | [] => ⟨[], rfl, fun x hx => by cases hx⟩
  | x :: r => by
    obtain ⟨t, h1, h2⟩ := cut_split r
    unfold cutM
    cases hq : cutM r with
    | nil =>
      rw [hq] at h1
      by_cases hk : x.kind = 2
      · simp only [hk, if_true]
        refine ⟨x :: r, rfl, fun y hy => ?_⟩
        rcases List.mem_cons.1 hy with rfl | hy
        · exact hk
        · rw [h1] at hy; exact h2 y hy
      · simp only [hk, if_false]
        exact ⟨t, by rw [List.singleton_append]; congr 1, h2⟩
    | cons y q =>
      rw [hq] at h1
      exact ⟨t, by simp only [List.cons_append]; congr 1, h2⟩
theorem cut_last : ∀ (l : List En) (x : En), (cutM l).getLast? = some x → x.kind ≠ 2
  | [], x, h => by cases h
  | y :: r, x, h => by
    unfold cutM at h
    cases hq : cutM r with
    | nil =>
      rw [hq] at h
      by_cases hk : y.kind = 2
      · simp only [hk, if_true] at h; cases h
      · simp only [hk, if_false, List.getLast?_singleton, Option.some.injEq] at h
        rw [← h]; exact hk
    | cons z q =>
      rw [hq] at h
      simp only [List.getLast?_cons_cons] at h
      exact cut_last r x (by rw [hq]; exact h)
theorem cut_idem_of (l : List En) (h : ∀ x, l.getLast? = some x → x.kind ≠ 2) : cutM l = l := by
  induction l with
  | nil => rfl
  | cons x r ih =>
    unfold cutM
    cases r with
    | nil =>
      have := h x rfl
      simp only [cutM]
      rw [if_neg this]
    | cons y q =>
      rw [ih (fun z hz => h z (by rw [List.getLast?_cons_cons]; exact hz))]
theorem find_filter {p q : En → Bool} : ∀ {l : List En} {x : En}, l.find? p = some x → q x = true → (l.filter q).find? p = some x
  | [], x, h, _ => by cases h
  | y :: r, x, h, hq => by
    rw [List.find?_cons] at h
    split at h
    · next hp =>
      have e : y = x := Option.some.inj h
      subst e
      rw [List.filter_cons_of_pos hq, List.find?_cons, hp]
    · next hp =>
      have ih := find_filter h hq
      cases hy : q y with
      | true => rw [List.filter_cons_of_pos hy, List.find?_cons, hp]; exact ih
      | false => rw [List.filter_cons_of_neg (by simp [hy])]; exact ih
theorem find_sub {p : En → Bool} {l m : List En} (hs : m.Sublist l) (h : l.find? p = none) : m.find? p = none := by
  rw [List.find?_eq_none] at *
  exact fun x hx => h x (hs.subset hx)
theorem find_pre {p : En → Bool} {h t : List En} {x : En} (hf : (h ++ t).find? p = some x) (hx : x ∈ h) : h.find? p = some x := by
  rw [List.find?_append] at hf
  cases q : h.find? p with
  | none =>
    have := List.find?_eq_none.1 q x hx
    have hp : p x = true := by
      rw [q] at hf
      simp only [Option.none_or] at hf
      exact List.find?_some hf
    exact absurd hp this
  | some y => rw [q] at hf; simpa using hf
theorem one_sub (snaps : List Int) (bottom : Bool) (g : List En) : (oneM snaps bottom g).Sublist g := by
  unfold oneM
  have h1 : (keptM g snaps).Sublist g := List.filter_sublist
  split
  · obtain ⟨t, ht, _⟩ := cut_split (keptM g snaps)
    refine List.Sublist.trans ?_ h1
    conv => rhs; rw [ht]
    exact List.sublist_append_left _ _
  · exact h1
theorem head_stays {g : List En} {snaps : List Int} {x : En} {r : List En} (h : g = x :: r) : stayM g snaps x = true := by
  unfold stayM
  rw [h]
  simp
theorem sees_kept {g : List En} {snaps : List Int} {s : Int} {x : En} (hs : s ∈ snaps) (h : seesM g s = some x) : seesM (keptM g snaps) s = some x := by
  unfold seesM keptM
  refine find_filter h ?_
  unfold stayM
  rw [Bool.or_eq_true]
  refine .inr ?_
  rw [List.any_eq_true]
  exact ⟨s, hs, by rw [h]; simp⟩
theorem see_cut (s : Int) (g : List En) : seeP s (cutM g) = seeP s g := by
  obtain ⟨t, h1, h2⟩ := cut_split g
  unfold seeP seesM
  conv => rhs; rw [h1, List.find?_append]
  cases q : (cutM g).find? (fun x => decide (x.seq ≤ s)) with
  | some y => rfl
  | none =>
    simp only [Option.none_or, Option.bind_none]
    cases q2 : t.find? (fun x => decide (x.seq ≤ s)) with
    | none => rfl
    | some y =>
      have hy := h2 y (List.mem_of_find?_eq_some q2)
      simp only [Option.bind_some]
      unfold paOf
      rw [if_neg (by omega)]
theorem see_kept (g : List En) (snaps : List Int) (s : Int) (h : s ∈ snaps ∨ ∀ x ∈ g, x.seq ≤ s) : seeP s (keptM g snaps) = seeP s g := by
  unfold seeP
  cases q : seesM g s with
  | none =>
    have : seesM (keptM g snaps) s = none := find_sub List.filter_sublist q
    rw [this]
  | some x =>
    have : seesM (keptM g snaps) s = some x := by
      rcases h with h | h
      · exact sees_kept h q
      · cases g with
        | nil => cases q
        | cons y r =>
          have hy := h y List.mem_cons_self
          have e : y = x := by
            unfold seesM at q
            rw [List.find?_cons, decide_eq_true hy] at q
            simpa using q
          subst e
          refine find_filter q (head_stays rfl)
    rw [this]
theorem see_one (g : List En) (snaps : List Int) (bottom : Bool) (s : Int) (h : s ∈ snaps ∨ ∀ x ∈ g, x.seq ≤ s) : seeP s (oneM snaps bottom g) = seeP s g := by
  unfold oneM
  split
  · rw [see_cut, see_kept g snaps s h]
  · exact see_kept g snaps s h
def neL (g : List En) : Bool := !g.isEmpty
theorem flat_ne : ∀ gs : List (List En), (gs.filter neL).flatten = gs.flatten
  | [] => rfl
  | [] :: gs => by rw [List.filter_cons_of_neg (by decide)]; simpa using flat_ne gs
  | (x :: g) :: gs => by rw [List.filter_cons_of_pos (by rfl), List.flatten_cons, List.flatten_cons, flat_ne gs]
theorem grps_sub {gs : List (List En)} (f : List En → List En) (hf : ∀ g, (f g).Sublist g) (h : Grps gs) : Grps ((gs.map f).filter neL) := by
  refine ⟨fun k hk => ?_, ?_⟩
  · rw [List.mem_filter, List.mem_map] at hk
    obtain ⟨⟨g, hg, rfl⟩, hn⟩ := hk
    have hG := h.1 g hg
    refine ⟨fun e => (by rw [e] at hn; cases hn), fun x hx y hy => hG.2 x ((hf g).subset hx) y ((hf g).subset hy)⟩
  · refine List.Pairwise.filter _ ?_
    rw [List.pairwise_map]
    exact h.2.imp (fun q x hx y hy => q x ((hf _).subset hx) y ((hf _).subset hy))
theorem thin_groups {l : List En} (h : Asc l) (snaps : List Int) (bottom : Bool) : groupsM (thinL l snaps bottom) = ((groupsM l).map (oneM snaps bottom)).filter neL := by
  unfold thinL
  rw [← flat_ne, groups_of _ (grps_sub _ (one_sub snaps bottom) (groups_grps l.length l (Nat.le_refl _) h))]
theorem flat_sub (f : List En → List En) (hf : ∀ g, (f g).Sublist g) : ∀ gs : List (List En), (gs.map f).flatten.Sublist gs.flatten
  | [] => List.Sublist.refl _
  | g :: gs => by
    rw [List.map_cons, List.flatten_cons, List.flatten_cons]
    exact (hf g).append (flat_sub f hf gs)
theorem thin_sub (l : List En) (snaps : List Int) (bottom : Bool) : (thinL l snaps bottom).Sublist l := by
  have := flat_sub _ (one_sub snaps bottom) (groupsM l)
  rw [groups_join] at this
  exact this
/-- THE STAGE'S THEOREM: what was thinned tells the same. -/
theorem thin_same {l : List En} (h : Asc l) (snaps : List Int) (bottom : Bool) (s : Int) (hs : s ∈ snaps ∨ ∀ x ∈ l, x.seq ≤ s) : seenL (thinL l snaps bottom) s = seenL l s := by
  unfold seenL
  rw [thin_groups h]
  have e : ∀ gs : List (List En), (∀ g ∈ gs, s ∈ snaps ∨ ∀ x ∈ g, x.seq ≤ s) → ((gs.map (oneM snaps bottom)).filter neL).filterMap (seeP s) = gs.filterMap (seeP s) := by
    intro gs
    induction gs with
    | nil => intro _; rfl
    | cons g gs ih =>
      intro hq
      have h1 := see_one g snaps bottom s (hq g List.mem_cons_self)
      have h2 := ih (fun k hk => hq k (List.mem_cons_of_mem _ hk))
      rw [List.map_cons]
      cases q : oneM snaps bottom g with
      | nil =>
        rw [List.filter_cons_of_neg (by decide), h2, List.filterMap_cons]
        rw [q] at h1
        rw [← h1]
        rfl
      | cons y k =>
        rw [List.filter_cons_of_pos (by rfl), List.filterMap_cons, List.filterMap_cons, ← q, h1, h2]
  refine e _ (fun g hg => ?_)
  rcases hs with hs | hs
  · exact .inl hs
  · refine .inr (fun x hx => hs x ?_)
    rw [← groups_join l]
    exact List.mem_flatten.2 ⟨g, hg, hx⟩
theorem one_idem {g : List En} (hf : Falls g) (snaps : List Int) (bottom : Bool) : oneM snaps bottom (oneM snaps bottom g) = oneM snaps bottom g := by
  have hk : ∃ t, keptM g snaps = oneM snaps bottom g ++ t := by
    unfold oneM
    split
    · obtain ⟨t, ht, _⟩ := cut_split (keptM g snaps)
      exact ⟨t, ht⟩
    · exact ⟨[], by simp⟩
  obtain ⟨t, ht⟩ := hk
  have hsub := one_sub snaps bottom g
  have key : keptM (oneM snaps bottom g) snaps = oneM snaps bottom g := by
    unfold keptM
    refine List.filter_eq_self.2 fun x hx => ?_
    have hst : stayM g snaps x = true := by
      have hm : x ∈ keptM g snaps := by rw [ht]; exact List.mem_append_left _ hx
      exact (List.mem_filter.1 hm).2
    unfold stayM at hst ⊢
    rw [Bool.or_eq_true] at hst ⊢
    rcases hst with hst | hst
    · refine .inl ?_
      cases hg : g with
      | nil => rw [hg] at hst; simp at hst
      | cons y r =>
        rw [hg] at hst
        simp only [List.head?_cons, Option.map_some, beq_iff_eq, Option.some.injEq] at hst
        have hky : keptM g snaps = y :: (r.filter (stayM g snaps)) := by
          unfold keptM
          conv => lhs; rw [hg, List.filter_cons_of_pos (by rw [← hg]; exact head_stays hg)]
          rw [hg]
        rw [hky] at ht
        rw [← hg]
        cases ho : oneM snaps bottom g with
        | nil => rw [ho] at hx; cases hx
        | cons z q =>
          rw [ho] at ht
          simp only [List.cons_append, List.cons.injEq] at ht
          rw [← ht.1]
          simp [hst]
    · refine .inr ?_
      rw [List.any_eq_true] at hst ⊢
      obtain ⟨s, hs, hq⟩ := hst
      refine ⟨s, hs, ?_⟩
      cases hy : seesM g s with
      | none => rw [hy] at hq; simp at hq
      | some y =>
        rw [hy] at hq
        simp only [Option.map_some, beq_iff_eq, Option.some.injEq] at hq
        have hyg : y ∈ g := List.mem_of_find?_eq_some hy
        have e := falls_inj hf y hyg x (hsub.subset hx) hq
        subst e
        have h2 := sees_kept hs hy
        unfold seesM at h2
        rw [ht] at h2
        have h3 := find_pre h2 hx
        unfold seesM
        rw [h3]
        simp
  unfold oneM at key ⊢
  cases bottom with
  | false =>
    simp only [Bool.false_eq_true, if_false] at key ⊢
    exact key
  | true =>
    simp only [if_true] at key ⊢
    rw [key]
    exact cut_idem_of _ (fun x hx => cut_last _ x hx)
theorem thin_twice {l : List En} (h : Asc l) (snaps : List Int) (bottom : Bool) : thinL (thinL l snaps bottom) snaps bottom = thinL l snaps bottom := by
  have e : thinL (thinL l snaps bottom) snaps bottom = ((groupsM (thinL l snaps bottom)).map (oneM snaps bottom)).flatten := rfl
  rw [e, thin_groups h]
  have e2 : ∀ gs : List (List En), (∀ g ∈ gs, Falls g) → ((gs.map (oneM snaps bottom)).filter neL).map (oneM snaps bottom) = (gs.map (oneM snaps bottom)).filter neL := by
    intro gs hgs
    refine (List.map_congr_left (g := id) fun k hk => ?_).trans (List.map_id _)
    rw [List.mem_filter, List.mem_map] at hk
    obtain ⟨⟨g, hg, rfl⟩, _⟩ := hk
    exact one_idem (hgs g hg) snaps bottom
  rw [e2 _ (fun g hg => group_falls h hg), flat_ne]
  rfl
theorem flat_last : ∀ (gs : List (List En)), Grps gs → (∀ g ∈ gs, ∀ x, g.getLast? = some x → x.kind ≠ 2) → ∀ pre x post, gs.flatten = pre ++ x :: post → (∀ y q, post = y :: q → KL y ≠ KL x) → x.kind ≠ 2
  | [], _, _, pre, x, post, e, _ => by simp at e
  | g :: gs, h, hl, pre, x, post, e, hp => by
    rw [List.flatten_cons] at e
    rcases List.append_eq_append_iff.1 e with ⟨a, e1, e2⟩ | ⟨a, e1, e2⟩
    · exact flat_last gs ⟨fun k hk => h.1 k (List.mem_cons_of_mem _ hk), (List.pairwise_cons.1 h.2).2⟩ (fun k hk => hl k (List.mem_cons_of_mem _ hk)) a x post e2 hp
    · cases a with
      | nil =>
        simp only [List.nil_append] at e2
        exact flat_last gs ⟨fun k hk => h.1 k (List.mem_cons_of_mem _ hk), (List.pairwise_cons.1 h.2).2⟩ (fun k hk => hl k (List.mem_cons_of_mem _ hk)) [] x post (by simpa using e2.symm) hp
      | cons z a =>
        simp only [List.cons_append, List.cons.injEq] at e2
        obtain ⟨rfl, e2⟩ := e2
        cases a with
        | nil => exact hl g List.mem_cons_self x (by rw [e1]; simp)
        | cons y a =>
          have hy : y ∈ g := by rw [e1]; simp
          have hx : x ∈ g := by rw [e1]; simp
          exact absurd ((h.1 g List.mem_cons_self).2 y hy x hx) (hp y (a ++ gs.flatten) (by rw [e2]; rfl))
/-- At the bottom no key's last version that is left says that it is gone. -/
theorem thin_bottom {l : List En} (h : Asc l) (snaps : List Int) {pre post : List En} {x : En} (e : thinL l snaps true = pre ++ x :: post) (hp : ∀ y q, post = y :: q → KL y ≠ KL x) : x.kind ≠ 2 := by
  have hG := grps_sub _ (one_sub snaps true) (groups_grps l.length l (Nat.le_refl _) h)
  refine flat_last _ hG (fun g hg y hy => ?_) pre x post ?_ hp
  · rw [List.mem_filter, List.mem_map] at hg
    obtain ⟨⟨k, _, rfl⟩, _⟩ := hg
    unfold oneM at hy
    simp only [if_true] at hy
    exact cut_last _ y hy
  · rw [flat_ne]
    exact e
theorem flat_first (f : List En → List En) (hf : ∀ x r, x ∈ f (x :: r)) : ∀ (gs : List (List En)), Grps gs → ∀ pre x post, gs.flatten = pre ++ x :: post → (∀ y, pre.getLast? = some y → KL y ≠ KL x) → x ∈ (gs.map f).flatten
  | [], _, pre, x, post, e, _ => by simp at e
  | g :: gs, h, pre, x, post, e, hp => by
    rw [List.flatten_cons] at e
    rw [List.map_cons, List.flatten_cons, List.mem_append]
    have hr : Grps gs := ⟨fun k hk => h.1 k (List.mem_cons_of_mem _ hk), (List.pairwise_cons.1 h.2).2⟩
    rcases List.append_eq_append_iff.1 e with ⟨a, e1, e2⟩ | ⟨a, e1, e2⟩
    · refine .inr (flat_first f hf gs hr a x post e2 (fun y hy => hp y ?_))
      rw [e1, List.getLast?_append, hy]
      rfl
    · cases a with
      | nil =>
        simp only [List.nil_append] at e2
        refine .inr (flat_first f hf gs hr [] x post (by simpa using e2.symm) (fun y hy => by cases hy))
      | cons z a =>
        simp only [List.cons_append, List.cons.injEq] at e2
        obtain ⟨rfl, e2⟩ := e2
        cases hpre : pre.getLast? with
        | none =>
          rw [List.getLast?_eq_none_iff] at hpre
          rw [hpre] at e1
          rw [e1]
          exact .inl (hf x a)
        | some y =>
          have hy : y ∈ g := by rw [e1]; exact List.mem_append_left _ (List.mem_of_getLast? hpre)
          have hx : x ∈ g := by rw [e1]; simp
          exact absurd ((h.1 g List.mem_cons_self).2 y hy x hx) (hp y hpre)
/-- Elsewhere each key's first version is left. -/
theorem thin_first {l : List En} (h : Asc l) (snaps : List Int) {pre post : List En} {x : En} (e : l = pre ++ x :: post) (hp : ∀ y, pre.getLast? = some y → KL y ≠ KL x) : x ∈ thinL l snaps false := by
  refine flat_first (oneM snaps false) (fun y r => ?_) (groupsM l) (groups_grps l.length l (Nat.le_refl _) h) pre x post (by rw [groups_join]; exact e) hp
  unfold oneM keptM
  simp only [Bool.false_eq_true, if_false]
  exact List.mem_filter.2 ⟨List.mem_cons_self, head_stays rfl⟩

/-! ### merged -/
def twoM : List En → List En → List En
  | [], b => b
  | x :: a, b => b.takeWhile (fun y => beforeE y x) ++ (x :: twoM a (b.dropWhile (fun y => beforeE y x)))
def mergeL (runs : List (List En)) : List En := runs.foldl twoM []
def Wk (l : List En) : Prop := l.Pairwise fun a b => ¬ beforeE b a = true
theorem two_perm : ∀ (a b : List En), (twoM a b).Perm (a ++ b)
  | [], b => List.Perm.refl _
  | x :: a, b => by
    unfold twoM
    have h1 := two_perm a (b.dropWhile (fun y => beforeE y x))
    have h2 : b.takeWhile (fun y => beforeE y x) ++ b.dropWhile (fun y => beforeE y x) = b := List.takeWhile_append_dropWhile
    refine List.perm_middle.trans (List.Perm.cons x ?_)
    refine (List.Perm.append_left _ h1).trans ?_
    rw [← List.append_assoc]
    refine (List.Perm.append_right _ List.perm_append_comm).trans ?_
    rw [List.append_assoc, h2]
    exact List.Perm.refl _
theorem take_all_mem {p : En → Bool} : ∀ (l : List En), ∀ y ∈ l.takeWhile p, p y = true
  | [], y, h => by cases h
  | x :: l, y, h => by
    rw [List.takeWhile_cons] at h
    split at h
    · next q =>
      rcases List.mem_cons.1 h with rfl | h
      · exact q
      · exact take_all_mem l y h
    · cases h
theorem bef_le {a b c : En} (h : beforeE a b = true) (k : ¬ beforeE c b = true) : ¬ beforeE c a = true := fun q => k (bef_trans q h)
theorem le_trans {a b c : En} (h : ¬ beforeE b a = true) (k : ¬ beforeE c b = true) : ¬ beforeE c a = true := by
  intro q
  by_cases h1 : beforeE a b = true
  · exact k (bef_trans q h1)
  · have t := bef_total h1 h
    apply k
    rw [bef_iff] at q ⊢
    rw [← t.1, ← t.2]
    exact q
theorem drop_ge {x : En} : ∀ (b : List En), Wk b → ∀ y ∈ b.dropWhile (fun y => beforeE y x), ¬ beforeE y x = true
  | [], _, y, h => by cases h
  | z :: b, hw, y, h => by
    rw [List.dropWhile_cons] at h
    have h1 := List.pairwise_cons.1 hw
    split at h
    · exact drop_ge b h1.2 y h
    · next q =>
      rcases List.mem_cons.1 h with rfl | h
      · exact q
      · intro k
        have := h1.1 y h
        exact this (by
          by_cases hz : beforeE y z = true
          · exact hz
          · have t := bef_total hz (h1.1 y h |> fun m => (fun n => by
              exfalso
              apply q
              exact bef_trans n k))
            exfalso
            apply q
            rw [bef_iff] at k ⊢
            rw [← t.1, ← t.2]
            exact k)
theorem two_wk : ∀ (a b : List En), Wk a → Wk b → Wk (twoM a b)
  | [], b, _, hb => hb
  | x :: a, b, ha, hb => by
    unfold twoM
    have ha1 := List.pairwise_cons.1 ha
    have hd : Wk (b.dropWhile (fun y => beforeE y x)) := hb.sublist (List.dropWhile_sublist _)
    have ih := two_wk a _ ha1.2 hd
    have hge : ∀ y ∈ twoM a (b.dropWhile (fun y => beforeE y x)), ¬ beforeE y x = true := fun y hy => by
      rcases List.mem_append.1 ((two_perm a _).mem_iff.1 hy) with q | q
      · exact ha1.1 y q
      · exact drop_ge b hb y q
    refine List.pairwise_append.2 ⟨hb.sublist (List.takeWhile_sublist _), List.pairwise_cons.2 ⟨hge, ih⟩, fun y hy z hz => ?_⟩
    have hyx := take_all_mem b y hy
    rcases List.mem_cons.1 hz with rfl | hz
    · exact bef_asym hyx
    · exact bef_le hyx (hge z hz)
theorem fold_perm : ∀ (runs : List (List En)) (o : List En), (runs.foldl twoM o).Perm (o ++ runs.flatten)
  | [], o => by simp
  | r :: rs, o => by
    rw [List.foldl_cons, List.flatten_cons]
    refine (fold_perm rs (twoM o r)).trans ?_
    rw [← List.append_assoc]
    exact List.Perm.append_right _ (two_perm o r)
theorem fold_wk : ∀ (runs : List (List En)) (o : List En), Wk o → (∀ r ∈ runs, Wk r) → Wk (runs.foldl twoM o)
  | [], o, h, _ => h
  | r :: rs, o, h, hr => fold_wk rs _ (two_wk o r h (hr r List.mem_cons_self)) (fun k hk => hr k (List.mem_cons_of_mem _ hk))
theorem merge_perm (runs : List (List En)) : (mergeL runs).Perm runs.flatten := by
  unfold mergeL
  simpa using fold_perm runs []
theorem asc_wk {l : List En} (h : Asc l) : Wk l := h.imp (fun q => bef_asym q)
theorem merge_wk {runs : List (List En)} (h : ∀ r ∈ runs, Asc r) : Wk (mergeL runs) := fold_wk runs [] List.Pairwise.nil (fun r hr => asc_wk (h r hr))
def NoTw (l : List En) : Prop := l.Pairwise fun a b => ¬ TwinE a b
theorem notw_perm {a b : List En} (h : a.Perm b) : NoTw a ↔ NoTw b := List.Perm.pairwise_iff (fun q k => q ⟨k.1.symm, k.2.symm⟩) h
theorem asc_iff {l : List En} (h : Wk l) : Asc l ↔ NoTw l := by
  constructor
  · exact fun q => q.imp (fun k t => twin_not t k)
  · intro q
    refine List.Pairwise.imp ?_ (List.Pairwise.and h q)
    rintro a b ⟨h1, h2⟩
    cases hb : beforeE a b with
    | true => rfl
    | false => exact absurd (bef_total (by rw [hb]; decide) h1) h2
theorem merge_asc {runs : List (List En)} (h : ∀ r ∈ runs, Asc r) : Asc (mergeL runs) ↔ NoTw runs.flatten := (asc_iff (merge_wk h)).trans (notw_perm (merge_perm runs))
/-- Runs that are one another's arrangement are merged into one list. -/
theorem merge_one {runs back : List (List En)} (h : ∀ r ∈ runs, Asc r) (hb : ∀ r ∈ back, Asc r) (hp : runs.flatten.Perm back.flatten) (hn : NoTw runs.flatten) : mergeL runs = mergeL back := by
  refine asc_unique _ _ ((merge_asc h).2 hn) ((merge_asc hb).2 ((notw_perm hp).1 hn)) (fun x => ?_)
  rw [(merge_perm runs).mem_iff, (merge_perm back).mem_iff, hp.mem_iff]
def firstE : List (List En) → Int
  | [] => 0
  | r :: rs => if ordL r = 0 then firstE rs else ordL r
theorem firstE_iff : ∀ runs : List (List En), firstE runs = 0 ↔ ∀ r ∈ runs, ordL r = 0
  | [] => by simp [firstE]
  | r :: rs => by
    unfold firstE
    by_cases h : ordL r = 0
    · rw [if_pos h, firstE_iff rs]
      simp [h]
    · rw [if_neg h]
      simp [h]
def mergeE (runs : List (List En)) : Int := if 64 < runs.length ∨ 65536 < (runs.map List.length).sum then 3 else if firstE runs ≠ 0 then firstE runs else if ordL (mergeL runs) ≠ 0 then 6 else 0
def mergeM (runs : List (List En)) : List En := if mergeE runs = 0 then mergeL runs else []
theorem mergeE_iff (runs : List (List En)) : mergeE runs = 0 ↔ runs.length ≤ 64 ∧ (runs.map List.length).sum ≤ 65536 ∧ (∀ r ∈ runs, ordL r = 0) ∧ NoTw runs.flatten := by
  unfold mergeE
  by_cases h1 : 64 < runs.length ∨ 65536 < (runs.map List.length).sum
  · rw [if_pos h1]
    constructor
    · intro h; cases h
    · rintro ⟨a, b, _, _⟩; omega
  · rw [if_neg h1]
    by_cases h2 : firstE runs = 0
    · rw [if_neg (by simpa using h2)]
      have h3 := (firstE_iff runs).1 h2
      have hA : ∀ r ∈ runs, Asc r := fun r hr => ((ord_iff r).1 (h3 r hr)).2
      have hM : ∀ x ∈ mergeL runs, mayE x = true := fun x hx => by
        obtain ⟨r, hr, hxr⟩ := List.mem_flatten.1 ((merge_perm runs).mem_iff.1 hx)
        exact ((ord_iff r).1 (h3 r hr)).1 x hxr
      by_cases h4 : ordL (mergeL runs) = 0
      · rw [if_neg (by simpa using h4)]
        have := ((ord_iff _).1 h4).2
        exact ⟨fun _ => ⟨by omega, by omega, h3, (merge_asc hA).1 this⟩, fun _ => rfl⟩
      · rw [if_pos h4]
        constructor
        · intro h; cases h
        · rintro ⟨_, _, _, h5⟩
          exact absurd ((ord_iff _).2 ⟨hM, (merge_asc hA).2 h5⟩) h4
    · rw [if_pos h2]
      constructor
      · intro h; exact absurd h h2
      · rintro ⟨_, _, h3, _⟩
        exact absurd ((firstE_iff runs).2 h3) h2
theorem merge_ord {runs : List (List En)} (h : mergeE runs = 0) : ordL (mergeL runs) = 0 ∧ (mergeL runs).length = (runs.map List.length).sum := by
  have h1 := (mergeE_iff runs).1 h
  have hA : ∀ r ∈ runs, Asc r := fun r hr => ((ord_iff r).1 (h1.2.2.1 r hr)).2
  refine ⟨(ord_iff _).2 ⟨fun x hx => ?_, (merge_asc hA).2 h1.2.2.2⟩, ?_⟩
  · obtain ⟨r, hr, hxr⟩ := List.mem_flatten.1 ((merge_perm runs).mem_iff.1 hx)
    exact ((ord_iff r).1 (h1.2.2.1 r hr)).1 x hxr
  · rw [(merge_perm runs).length_eq, List.length_flatten]
theorem merge_back (runs : List (List En)) : (mergeE runs = 0 ↔ mergeE runs.reverse = 0) ∧ (mergeE runs = 0 → mergeL runs.reverse = mergeL runs) := by
  have hp : runs.flatten.Perm runs.reverse.flatten := List.Perm.flatten (List.reverse_perm runs).symm
  have e : mergeE runs = 0 ↔ mergeE runs.reverse = 0 := by
    rw [mergeE_iff, mergeE_iff, notw_perm hp, List.length_reverse]
    have : (runs.reverse.map List.length).sum = (runs.map List.length).sum := by rw [List.map_reverse, List.sum_reverse]
    rw [this]
    simp only [List.mem_reverse]
  refine ⟨e, fun h => ?_⟩
  have h1 := (mergeE_iff runs).1 h
  have hA : ∀ r ∈ runs, Asc r := fun r hr => ((ord_iff r).1 (h1.2.2.1 r hr)).2
  exact (merge_one hA (fun r hr => hA r (List.mem_reverse.1 hr)) hp h1.2.2.2).symm
/-- Two by two. -/
theorem merge_step {runs : List (List En)} (h : mergeE runs = 0) (k : Nat) (r : List En) (hr : runs[k]? = some r) : mergeE [mergeL (runs.take k), r] = 0 ∧ mergeL [mergeL (runs.take k), r] = mergeL (runs.take (k + 1)) := by
  have h1 := (mergeE_iff runs).1 h
  have hk := (List.getElem?_eq_some_iff.1 hr).1
  have hs : runs.take (k + 1) = runs.take k ++ [r] := by rw [List.take_add_one, hr]; rfl
  have e : mergeL [mergeL (runs.take k), r] = mergeL (runs.take (k + 1)) := by
    rw [hs]
    unfold mergeL
    rw [List.foldl_append]
    rfl
  refine ⟨?_, e⟩
  have sub : ∀ j, (runs.take j).flatten.Sublist runs.flatten := fun j => by
    conv => rhs; rw [← List.take_append_drop j runs, List.flatten_append]
    exact List.sublist_append_left _ _
  have hsum : ∀ j, ((runs.take j).map List.length).sum ≤ 65536 := fun j => by
    have a := (sub j).length_le
    rw [List.length_flatten, List.length_flatten] at a
    omega
  have hok : ∀ j, mergeE (runs.take j) = 0 := fun j => (mergeE_iff _).2 ⟨by rw [List.length_take]; omega, hsum j, fun q hq => h1.2.2.1 q (List.mem_of_mem_take hq), h1.2.2.2.sublist (sub j)⟩
  have hk1 := merge_ord (hok (k + 1))
  have hk0 := merge_ord (hok k)
  have hrl : ordL r = 0 := h1.2.2.1 r (List.mem_of_getElem? hr)
  refine (mergeE_iff _).2 ⟨by simp, ?_, fun q hq => ?_, ?_⟩
  · have a := hsum (k + 1)
    rw [hs, List.map_append, List.sum_append] at a
    simp only [List.map_cons, List.map_nil, List.sum_cons, List.sum_nil] at a ⊢
    rw [hk0.2]
    omega
  · simp only [List.mem_cons, List.mem_nil_iff, or_false] at hq
    rcases hq with rfl | rfl
    · exact hk0.1
    · exact hrl
  · have a := ((ord_iff _).1 hk1.1).2
    rw [← e] at a
    have hA : ∀ q ∈ [mergeL (runs.take k), r], Asc q := fun q hq => by
      simp only [List.mem_cons, List.mem_nil_iff, or_false] at hq
      rcases hq with rfl | rfl
      · exact ((ord_iff _).1 hk0.1).2
      · exact ((ord_iff _).1 hrl).2
    exact (merge_asc hA).1 a
end Go.Proofs.Ytfnddbglopoghaa
