/- Texts of layers 1 to 13, in this order. -/
import Derived.Test.YthiegmhplnbdlaaGreatG07
import Derived.Deep.QuietTactic
import Derived.BigQuiet

namespace Go.Proofs.YthiegmhplnbdlaaGreat
open Go.RowKit
set_option linter.unusedVariables false
set_option linter.unusedSimpArgs false
def KL (x : En) : List UInt8 := x.key.toList
theorem blN_self : ∀ l : List UInt8, Op.bytesLess l l = false
  | [] => rfl
  | x :: l => by simp [Op.bytesLess, blN_self l]
theorem blN_trans : ∀ a b c : List UInt8, Op.bytesLess a b = true → Op.bytesLess b c = true → Op.bytesLess a c = true
  | _, [], _, h, _ => by simp [Op.bytesLess] at h
  | _, _ :: _, [], _, h => by simp [Op.bytesLess] at h
  | [], _ :: _, _ :: _, _, _ => by simp [Op.bytesLess]
  | x :: a, y :: b, z :: c, h, k => by
    simp only [Op.bytesLess, Bool.or_eq_true, decide_eq_true_eq, Bool.and_eq_true, beq_iff_eq] at h k ⊢
    rcases h with h | ⟨rfl, h⟩
    · rcases k with k | ⟨rfl, k⟩
      · exact .inl (UInt8.lt_trans h k)
      · exact .inl h
    · rcases k with k | ⟨rfl, k⟩
      · exact .inl k
      · exact .inr ⟨rfl, blN_trans a b c h k⟩
theorem blN_total : ∀ a b : List UInt8, Op.bytesLess a b = false → Op.bytesLess b a = false → a = b
  | [], [], _, _ => rfl
  | [], _ :: _, h, _ => by simp [Op.bytesLess] at h
  | _ :: _, [], _, h => by simp [Op.bytesLess] at h
  | x :: a, y :: b, h, k => by
    simp only [Op.bytesLess, Bool.or_eq_false_iff, decide_eq_false_iff_not, Bool.and_eq_false_iff, beq_eq_false_iff_ne] at h k
    have e : x = y := UInt8.le_antisymm (UInt8.not_lt.1 k.1) (UInt8.not_lt.1 h.1)
    subst e
    have h2 : Op.bytesLess a b = false := by rcases h.2 with q | q; exact absurd rfl q; exact q
    have k2 : Op.bytesLess b a = false := by rcases k.2 with q | q; exact absurd rfl q; exact q
    rw [blN_total a b h2 k2]
theorem bef_iff {a b : En} : beforeE a b = true ↔ Op.bytesLess (KL a) (KL b) = true ∨ (KL a = KL b ∧ b.seq < a.seq) := by
  unfold beforeE KL
  simp only [Bool.or_eq_true, Bool.and_eq_true, beq_iff_eq, decide_eq_true_eq]
theorem bef_self (a : En) : ¬ beforeE a a = true := by
  rw [bef_iff, blN_self]
  rintro (h | h)
  · cases h
  · omega
theorem bef_trans {a b c : En} (h : beforeE a b = true) (k : beforeE b c = true) : beforeE a c = true := by
  rw [bef_iff] at *
  rcases h with h | ⟨h1, h2⟩ <;> rcases k with k | ⟨k1, k2⟩
  · exact .inl (blN_trans _ _ _ h k)
  · rw [← k1]; exact .inl h
  · rw [h1]; exact .inl k
  · exact .inr ⟨h1.trans k1, by omega⟩
theorem bef_asym {a b : En} (h : beforeE a b = true) : ¬ beforeE b a = true := fun k => bef_self a (bef_trans h k)
def TwinE (a b : En) : Prop := KL a = KL b ∧ a.seq = b.seq
theorem bef_total {a b : En} (h : ¬ beforeE a b = true) (k : ¬ beforeE b a = true) : TwinE a b := by
  rw [bef_iff] at h k
  have h1 : Op.bytesLess (KL a) (KL b) = false := by
    cases q : Op.bytesLess (KL a) (KL b) with
    | false => rfl
    | true => exact absurd (.inl q) h
  have k1 : Op.bytesLess (KL b) (KL a) = false := by
    cases q : Op.bytesLess (KL b) (KL a) with
    | false => rfl
    | true => exact absurd (.inl q) k
  have e := blN_total _ _ h1 k1
  refine ⟨e, ?_⟩
  have a1 : ¬ b.seq < a.seq := fun q => h (.inr ⟨e, q⟩)
  have a2 : ¬ a.seq < b.seq := fun q => k (.inr ⟨e.symm, q⟩)
  omega
theorem twin_not {a b : En} (h : TwinE a b) : ¬ beforeE a b = true := by
  rw [bef_iff, h.1, blN_self]
  rintro (q | q)
  · cases q
  · have := h.2; omega
def Asc (l : List En) : Prop := l.Pairwise fun a b => beforeE a b = true
theorem ord_some : ∀ (l : List En) (y : En), ordE (some y) l = 0 ↔ (∀ x ∈ l, mayE x = true) ∧ Asc (y :: l)
  | [], y => by simp [ordE, Asc]
  | x :: r, y => by
    unfold ordE
    by_cases hm : mayE x = true
    · rw [if_pos hm]
      by_cases hb : beforeE y x = true
      · rw [if_pos (by unfold aheadE; exact hb), ord_some r x]
        constructor
        · rintro ⟨h1, h2⟩
          refine ⟨fun z hz => ?_, ?_⟩
          · rcases List.mem_cons.1 hz with rfl | hz
            · exact hm
            · exact h1 z hz
          · refine List.pairwise_cons.2 ⟨fun z hz => ?_, h2⟩
            rcases List.mem_cons.1 hz with rfl | hz
            · exact hb
            · exact bef_trans hb ((List.pairwise_cons.1 h2).1 z hz)
        · rintro ⟨h1, h2⟩
          exact ⟨fun z hz => h1 z (List.mem_cons_of_mem _ hz), (List.pairwise_cons.1 h2).2⟩
      · rw [if_neg (by unfold aheadE; exact hb)]
        constructor
        · intro h; cases h
        · rintro ⟨_, h2⟩
          exact absurd ((List.pairwise_cons.1 h2).1 x List.mem_cons_self) hb
    · rw [if_neg hm]
      constructor
      · intro h; cases h
      · rintro ⟨h1, _⟩
        exact absurd (h1 x List.mem_cons_self) hm
def ordL (l : List En) : Int := ordE none l
theorem ord_iff (l : List En) : ordL l = 0 ↔ (∀ x ∈ l, mayE x = true) ∧ Asc l := by
  unfold ordL
  cases l with
  | nil => simp [ordE, Asc]
  | cons x r =>
    unfold ordE
    by_cases hm : mayE x = true
    · rw [if_pos hm, if_pos (show aheadE none x = true from rfl), ord_some]
      constructor
      · rintro ⟨h1, h2⟩
        refine ⟨fun z hz => ?_, h2⟩
        rcases List.mem_cons.1 hz with rfl | hz
        · exact hm
        · exact h1 z hz
      · rintro ⟨h1, h2⟩
        exact ⟨fun z hz => h1 z (List.mem_cons_of_mem _ hz), h2⟩
    · rw [if_neg hm]
      constructor
      · intro h; cases h
      · rintro ⟨h1, _⟩
        exact absurd (h1 x List.mem_cons_self) hm
theorem asc_unique : ∀ (a b : List En), Asc a → Asc b → (∀ x, x ∈ a ↔ x ∈ b) → a = b
  | [], [], _, _, _ => rfl
  | [], y :: b, _, _, h => by have := (h y).2 List.mem_cons_self; cases this
  | x :: a, [], _, _, h => by have := (h x).1 List.mem_cons_self; cases this
  | x :: a, y :: b, ha, hb, h => by
    have e : x = y := by
      rcases List.mem_cons.1 ((h x).1 List.mem_cons_self) with q | q
      · exact q
      · rcases List.mem_cons.1 ((h y).2 List.mem_cons_self) with q2 | q2
        · exact q2.symm
        · exact absurd ((List.pairwise_cons.1 ha).1 y q2) (bef_asym ((List.pairwise_cons.1 hb).1 x q))
    subst e
    rw [asc_unique a b (List.pairwise_cons.1 ha).2 (List.pairwise_cons.1 hb).2 (fun z => ?_)]
    constructor
    · intro hz
      rcases List.mem_cons.1 ((h z).1 (List.mem_cons_of_mem _ hz)) with q | q
      · subst q
        exact absurd ((List.pairwise_cons.1 ha).1 z hz) (bef_self z)
      · exact q
    · intro hz
      rcases List.mem_cons.1 ((h z).2 (List.mem_cons_of_mem _ hz)) with q | q
      · subst q
        exact absurd ((List.pairwise_cons.1 hb).1 z hz) (bef_self z)
      · exact q
def sameK (x y : En) : Bool := y.key.toList == x.key.toList
theorem sameK_iff {x y : En} : sameK x y = true ↔ KL y = KL x := by unfold sameK KL; exact beq_iff_eq
def groupsM : List En → List (List En)
  | [] => []
  | x :: r => (x :: r.takeWhile (sameK x)) :: groupsM (r.dropWhile (sameK x))
termination_by l => l.length
decreasing_by
  have := (List.dropWhile_sublist (sameK x) (l := r)).length_le
  simp only [List.length_cons]
  omega
def SameG (g : List En) : Prop := g ≠ [] ∧ ∀ x ∈ g, ∀ y ∈ g, KL x = KL y
def Grps (gs : List (List En)) : Prop := (∀ g ∈ gs, SameG g) ∧ gs.Pairwise fun g h => ∀ x ∈ g, ∀ y ∈ h, KL x ≠ KL y
theorem groups_flat : ∀ (n : Nat) (l : List En), l.length ≤ n → (groupsM l).flatten = l
  | _, [], _ => by unfold groupsM; rfl
  | 0, x :: r, h => by simp at h
  | n + 1, x :: r, h => by
    unfold groupsM
    have := (List.dropWhile_sublist (sameK x) (l := r)).length_le
    rw [List.flatten_cons, groups_flat n _ (by simp only [List.length_cons] at h; omega), List.cons_append, List.takeWhile_append_dropWhile]
theorem groups_join (l : List En) : (groupsM l).flatten = l := groups_flat l.length l (Nat.le_refl _)
theorem take_same (x : En) (r : List En) : ∀ y ∈ r.takeWhile (sameK x), KL y = KL x := by
  induction r with
  | nil => intro y hy; cases hy
  | cons z r ih =>
    intro y hy
    rw [List.takeWhile_cons] at hy
    split at hy
    · next q =>
      rcases List.mem_cons.1 hy with rfl | hy
      · exact sameK_iff.1 q
      · exact ih y hy
    · cases hy
theorem drop_other {x : En} : ∀ (r : List En), Asc (x :: r) → ∀ y ∈ r.dropWhile (sameK x), KL x ≠ KL y
  | [], _, y, hy => by cases hy
  | z :: r, h, y, hy => by
    rw [List.dropWhile_cons] at hy
    have h1 := List.pairwise_cons.1 h
    have h2 := List.pairwise_cons.1 h1.2
    split at hy
    · exact drop_other r (List.pairwise_cons.2 ⟨fun w hw => h1.1 w (List.mem_cons_of_mem _ hw), h2.2⟩) y hy
    · next q =>
      have hz : Op.bytesLess (KL x) (KL z) = true := by
        rcases bef_iff.1 (h1.1 z List.mem_cons_self) with k | k
        · exact k
        · exact absurd (sameK_iff.2 k.1.symm) q
      have hne : ∀ w : En, Op.bytesLess (KL x) (KL w) = true → KL x ≠ KL w := fun w k e => by rw [← e, blN_self] at k; cases k
      rcases List.mem_cons.1 hy with rfl | hy
      · exact hne _ hz
      · rcases bef_iff.1 (h2.1 y hy) with k | k
        · exact hne _ (blN_trans _ _ _ hz k)
        · rw [← k.1]; exact hne _ hz
theorem groups_grps : ∀ (n : Nat) (l : List En), l.length ≤ n → Asc l → Grps (groupsM l)
  | _, [], _, _ => by unfold groupsM; exact ⟨fun g hg => (by cases hg), List.Pairwise.nil⟩
  | 0, x :: r, h, _ => by simp at h
  | n + 1, x :: r, h, ha => by
    unfold groupsM
    have hs := List.dropWhile_sublist (sameK x) (l := r)
    have hl := hs.length_le
    have ih := groups_grps n (r.dropWhile (sameK x)) (by simp only [List.length_cons] at h; omega) ((List.pairwise_cons.1 ha).2.sublist hs)
    have hx : ∀ y ∈ x :: r.takeWhile (sameK x), KL y = KL x := fun y hy => by
      rcases List.mem_cons.1 hy with rfl | hy
      · rfl
      · exact take_same x r y hy
    refine ⟨fun g hg => ?_, List.pairwise_cons.2 ⟨fun g hg a ha' b hb => ?_, ih.2⟩⟩
    · rcases List.mem_cons.1 hg with rfl | hg
      · exact ⟨by simp, fun a ha b hb => (hx a ha).trans (hx b hb).symm⟩
      · exact ih.1 g hg
    · rw [hx a ha']
      have hm : b ∈ (groupsM (r.dropWhile (sameK x))).flatten := List.mem_flatten.2 ⟨g, hg, hb⟩
      rw [groups_join] at hm
      exact drop_other r ha b hm
def seesM (g : List En) (s : Int) : Option En := g.find? (fun x => decide (x.seq ≤ s))
structure Pa where
  key : ByteArray
  val : ByteArray
def paOf (x : En) : Option Pa := if x.kind = 1 then some ⟨x.key, x.val⟩ else none
def seeP (s : Int) (g : List En) : Option Pa := (seesM g s).bind paOf
def seenL (l : List En) (s : Int) : List Pa := (groupsM l).filterMap (seeP s)
def seenM (l : List En) (s : Int) : List Pa := if ordL l = 0 then seenL l s else []
def twoM : List En → List En → List En
  | [], b => b
  | x :: a, b => b.takeWhile (fun y => beforeE y x) ++ (x :: twoM a (b.dropWhile (fun y => beforeE y x)))
def mergeL (runs : List (List En)) : List En := runs.foldl twoM []
def Wk (l : List En) : Prop := l.Pairwise fun a b => ¬ beforeE b a = true
theorem two_perm : ∀ (a b : List En), (twoM a b).Perm (a ++ b)
  | [], b => List.Perm.refl _
  | x :: a, b => by
    unfold twoM
    have h1 := two_perm a (b.dropWhile (fun y => beforeE y x))
    have h2 : b.takeWhile (fun y => beforeE y x) ++ b.dropWhile (fun y => beforeE y x) = b := List.takeWhile_append_dropWhile
    refine List.perm_middle.trans (List.Perm.cons x ?_)
    refine (List.Perm.append_left _ h1).trans ?_
    rw [← List.append_assoc]
    refine (List.Perm.append_right _ List.perm_append_comm).trans ?_
    rw [List.append_assoc, h2]
    exact List.Perm.refl _
theorem take_all_mem {p : En → Bool} : ∀ (l : List En), ∀ y ∈ l.takeWhile p, p y = true
  | [], y, h => by cases h
  | x :: l, y, h => by
    rw [List.takeWhile_cons] at h
    split at h
    · next q =>
      rcases List.mem_cons.1 h with rfl | h
      · exact q
      · exact take_all_mem l y h
    · cases h
theorem bef_le {a b c : En} (h : beforeE a b = true) (k : ¬ beforeE c b = true) : ¬ beforeE c a = true := fun q => k (bef_trans q h)
theorem le_trans {a b c : En} (h : ¬ beforeE b a = true) (k : ¬ beforeE c b = true) : ¬ beforeE c a = true := by
  intro q
  by_cases h1 : beforeE a b = true
  · exact k (bef_trans q h1)
  · have t := bef_total h1 h
    apply k
    rw [bef_iff] at q ⊢
    rw [← t.1, ← t.2]
    exact q
theorem drop_ge {x : En} : ∀ (b : List En), Wk b → ∀ y ∈ b.dropWhile (fun y => beforeE y x), ¬ beforeE y x = true
  | [], _, y, h => by cases h
  | z :: b, hw, y, h => by
    rw [List.dropWhile_cons] at h
    have h1 := List.pairwise_cons.1 hw
    split at h
    · exact drop_ge b h1.2 y h
    · next q =>
      rcases List.mem_cons.1 h with rfl | h
      · exact q
      · intro k
        have := h1.1 y h
        exact this (by
          by_cases hz : beforeE y z = true
          · exact hz
          · have t := bef_total hz (h1.1 y h |> fun m => (fun n => by
              exfalso
              apply q
              exact bef_trans n k))
            exfalso
            apply q
            rw [bef_iff] at k ⊢
            rw [← t.1, ← t.2]
            exact k)
theorem two_wk : ∀ (a b : List En), Wk a → Wk b → Wk (twoM a b)
  | [], b, _, hb => hb
  | x :: a, b, ha, hb => by
    unfold twoM
    have ha1 := List.pairwise_cons.1 ha
    have hd : Wk (b.dropWhile (fun y => beforeE y x)) := hb.sublist (List.dropWhile_sublist _)
    have ih := two_wk a _ ha1.2 hd
    have hge : ∀ y ∈ twoM a (b.dropWhile (fun y => beforeE y x)), ¬ beforeE y x = true := fun y hy => by
      rcases List.mem_append.1 ((two_perm a _).mem_iff.1 hy) with q | q
      · exact ha1.1 y q
      · exact drop_ge b hb y q
    refine List.pairwise_append.2 ⟨hb.sublist (List.takeWhile_sublist _), List.pairwise_cons.2 ⟨hge, ih⟩, fun y hy z hz => ?_⟩
    have hyx := take_all_mem b y hy
    rcases List.mem_cons.1 hz with rfl | hz
    · exact bef_asym hyx
    · exact bef_le hyx (hge z hz)
theorem fold_perm : ∀ (runs : List (List En)) (o : List En), (runs.foldl twoM o).Perm (o ++ runs.flatten)
  | [], o => by simp
  | r :: rs, o => by
    rw [List.foldl_cons, List.flatten_cons]
    refine (fold_perm rs (twoM o r)).trans ?_
    rw [← List.append_assoc]
    exact List.Perm.append_right _ (two_perm o r)
theorem fold_wk : ∀ (runs : List (List En)) (o : List En), Wk o → (∀ r ∈ runs, Wk r) → Wk (runs.foldl twoM o)
  | [], o, h, _ => h
  | r :: rs, o, h, hr => fold_wk rs _ (two_wk o r h (hr r List.mem_cons_self)) (fun k hk => hr k (List.mem_cons_of_mem _ hk))
theorem merge_perm (runs : List (List En)) : (mergeL runs).Perm runs.flatten := by
  unfold mergeL
  simpa using fold_perm runs []
theorem asc_wk {l : List En} (h : Asc l) : Wk l := h.imp (fun q => bef_asym q)
theorem merge_wk {runs : List (List En)} (h : ∀ r ∈ runs, Asc r) : Wk (mergeL runs) := fold_wk runs [] List.Pairwise.nil (fun r hr => asc_wk (h r hr))
def NoTw (l : List En) : Prop := l.Pairwise fun a b => ¬ TwinE a b
theorem notw_perm {a b : List En} (h : a.Perm b) : NoTw a ↔ NoTw b := List.Perm.pairwise_iff (fun q k => q ⟨k.1.symm, k.2.symm⟩) h
theorem asc_iff {l : List En} (h : Wk l) : Asc l ↔ NoTw l := by
  constructor
  · exact fun q => q.imp (fun k t => twin_not t k)
  · intro q
    refine List.Pairwise.imp ?_ (List.Pairwise.and h q)
    rintro a b ⟨h1, h2⟩
    cases hb : beforeE a b with
    | true => rfl
    | false => exact absurd (bef_total (by rw [hb]; decide) h1) h2
theorem merge_asc {runs : List (List En)} (h : ∀ r ∈ runs, Asc r) : Asc (mergeL runs) ↔ NoTw runs.flatten := (asc_iff (merge_wk h)).trans (notw_perm (merge_perm runs))
def firstE : List (List En) → Int
  | [] => 0
  | r :: rs => if ordL r = 0 then firstE rs else ordL r
theorem firstE_iff : ∀ runs : List (List En), firstE runs = 0 ↔ ∀ r ∈ runs, ordL r = 0
  | [] => by simp [firstE]
  | r :: rs => by
    unfold firstE
    by_cases h : ordL r = 0
    · rw [if_pos h, firstE_iff rs]
      simp [h]
    · rw [if_neg h]
      simp [h]
def mergeE (runs : List (List En)) : Int := if 64 < runs.length ∨ 65536 < (runs.map List.length).sum then 3 else if firstE runs ≠ 0 then firstE runs else if ordL (mergeL runs) ≠ 0 then 6 else 0
def mergeM (runs : List (List En)) : List En := if mergeE runs = 0 then mergeL runs else []
theorem mergeE_iff (runs : List (List En)) : mergeE runs = 0 ↔ runs.length ≤ 64 ∧ (runs.map List.length).sum ≤ 65536 ∧ (∀ r ∈ runs, ordL r = 0) ∧ NoTw runs.flatten := by
  unfold mergeE
  by_cases h1 : 64 < runs.length ∨ 65536 < (runs.map List.length).sum
  · rw [if_pos h1]
    constructor
    · intro h; cases h
    · rintro ⟨a, b, _, _⟩; omega
  · rw [if_neg h1]
    by_cases h2 : firstE runs = 0
    · rw [if_neg (by simpa using h2)]
      have h3 := (firstE_iff runs).1 h2
      have hA : ∀ r ∈ runs, Asc r := fun r hr => ((ord_iff r).1 (h3 r hr)).2
      have hM : ∀ x ∈ mergeL runs, mayE x = true := fun x hx => by
        obtain ⟨r, hr, hxr⟩ := List.mem_flatten.1 ((merge_perm runs).mem_iff.1 hx)
        exact ((ord_iff r).1 (h3 r hr)).1 x hxr
      by_cases h4 : ordL (mergeL runs) = 0
      · rw [if_neg (by simpa using h4)]
        have := ((ord_iff _).1 h4).2
        exact ⟨fun _ => ⟨by omega, by omega, h3, (merge_asc hA).1 this⟩, fun _ => rfl⟩
      · rw [if_pos h4]
        constructor
        · intro h; cases h
        · rintro ⟨_, _, _, h5⟩
          exact absurd ((ord_iff _).2 ⟨hM, (merge_asc hA).2 h5⟩) h4
    · rw [if_pos h2]
      constructor
      · intro h; exact absurd h h2
      · rintro ⟨_, _, h3, _⟩
        exact absurd ((firstE_iff runs).2 h3) h2
theorem merge_ord {runs : List (List En)} (h : mergeE runs = 0) : ordL (mergeL runs) = 0 ∧ (mergeL runs).length = (runs.map List.length).sum := by
  have h1 := (mergeE_iff runs).1 h
  have hA : ∀ r ∈ runs, Asc r := fun r hr => ((ord_iff r).1 (h1.2.2.1 r hr)).2
  refine ⟨(ord_iff _).2 ⟨fun x hx => ?_, (merge_asc hA).2 h1.2.2.2⟩, ?_⟩
  · obtain ⟨r, hr, hxr⟩ := List.mem_flatten.1 ((merge_perm runs).mem_iff.1 hx)
    exact ((ord_iff r).1 (h1.2.2.1 r hr)).1 x hxr
  · rw [(merge_perm runs).length_eq, List.length_flatten]
end Go.Proofs.YthiegmhplnbdlaaGreat

namespace Go.Proofs.YthiegmhplnbdlaaGreat
open Go.RowKit
set_option linter.unusedVariables false
def irow (n : Int) : List Value := [.int .i64 n]
def IntsR (w : World) (v : Value) (l : List Int) : Prop := Rws 1 w v (l.map irow)
theorem IntsR.up {w w' : World} {v : Value} {l : List Int} (h : IntsR w v l) (hb : Below w.heap.size w w') : IntsR w' v l := Rws.up h hb
theorem IntsR.len {w : World} {v : Value} {l : List Int} (h : IntsR w v l) : ∃ a cap, v = .slice a l.length cap ∧ l.length ≤ cap ∧ cap ≤ maxLen := by
  obtain ⟨a, c, e, h1, h2⟩ := Rws.len h
  simp only [List.length_map] at e h1
  exact ⟨a, c, e, h1, h2⟩
theorem IntsR.at {w : World} {v : Value} {l : List Int} (h : IntsR w v l) (k : Nat) (hk : k < l.length) :
    ∃ b off cap n, v = .slice (some ⟨b, off, none⟩) l.length cap ∧ l[k]? = some n ∧ w.cell? ⟨b, off + k, none⟩ = some (.int .i64 n) := by
  obtain ⟨b, off, cap, e, _, _, hc⟩ := Rws.at h k (by simpa using hk)
  simp only [List.length_map] at e
  refine ⟨b, off, cap, l[k], e, by simp [hk], ?_⟩
  have := hc 0 (.int .i64 l[k]) (by simp [List.getD, hk, irow])
  simpa using this
theorem drewN_more (w : World) (d n : Nat) : (w.drewN d).drewN n = w.drewN (d + n) := by
  simp [World.drewN, Nat.add_assoc]
theorem one_int (l : List Int) : ∀ cs ∈ l.map irow, ∀ u ∈ cs, u.oneCell' = true := by
  intro cs h u hu
  simp only [List.mem_map] at h
  obtain ⟨n, _, rfl⟩ := h
  simp only [irow, List.mem_singleton] at hu
  subst hu
  rfl
theorem Tryz.info3 : (Tryz.prog.info? 3).map (fun i => (i.zero, i.size, i.bytes)) = some (some (.int .i64 0), 1, 8) := by kernel_rfl
end Go.Proofs.YthiegmhplnbdlaaGreat

namespace Go.Proofs.YthiegmhplnbdlaaGreat
open Go.RowKit
set_option linter.unusedVariables false
def EntsR (w : World) (v : Value) (l : List En) : Prop := Rws 4 w v (l.map enRow)
theorem EntsR.up {w w' : World} {v : Value} {l : List En} (h : EntsR w v l) (hb : Below w.heap.size w w') : EntsR w' v l := Rws.up h hb
theorem EntsR.len {w : World} {v : Value} {l : List En} (h : EntsR w v l) : ∃ a cap, v = .slice a l.length cap ∧ l.length ≤ cap ∧ cap ≤ maxLen := by
  obtain ⟨a, c, e, h1, h2⟩ := Rws.len h
  simp only [List.length_map] at e h1
  exact ⟨a, c, e, h1, h2⟩
theorem EntsR.at {w : World} {v : Value} {l : List En} (h : EntsR w v l) (k : Nat) (hk : k < l.length) :
    ∃ b off cap n, v = .slice (some ⟨b, off, none⟩) l.length cap ∧ l[k]? = some n ∧ w.cell? ⟨b, off + k * 4, none⟩ = some (.string n.key) ∧ w.cell? ⟨b, off + k * 4 + 1, none⟩ = some (.int .i64 n.seq) ∧ w.cell? ⟨b, off + k * 4 + 2, none⟩ = some (.int .i64 n.kind) ∧ w.cell? ⟨b, off + k * 4 + 3, none⟩ = some (.string n.val) := by
  obtain ⟨b, off, cap, e, _, _, hc⟩ := Rws.at h k (by simpa using hk)
  simp only [List.length_map] at e
  have hg : (l.map enRow).getD k [] = enRow l[k] := by simp [List.getD, hk]
  rw [hg] at hc
  refine ⟨b, off, cap, l[k], e, by simp [hk], ?_, ?_, ?_, ?_⟩
  · simpa using hc 0 _ rfl
  · simpa using hc 1 _ rfl
  · simpa using hc 2 _ rfl
  · simpa using hc 3 _ rfl
set_option maxHeartbeats 1000000 in
set_option maxRecDepth 100000 in
theorem sameEnts_self (l : List En) (v u : Value) (w : World) (hv : EntsR w v l) (hu : EntsR w u l) :
    Calls Tryz.prog 14 #[v, u] w fun e w' => e = .returned (.bool true) ∧ ∃ d, w' = w.drewN d := by
  have HV : Hid (EntsR w v l) := hv
  have HU : Hid (EntsR w u l) := hu
  obtain ⟨a1, c1, rfl, g1, m1⟩ := hv.len
  obtain ⟨a2, c2, rfl, g2, m2⟩ := hu.len
  have hl63 : l.length ≤ 9223372036854775807 := by unfold maxLen at m1; omega
  clear hv hu g1 g2 m1 m2
  go_enter Tryz.func14, Tryz.ntmps14
  go_wp2_with fail
  go_loopw [5] (fun i wr => ∃ (k d : Nat), k ≤ l.length ∧ i = .int .i64 k ∧ wr = w.drewN d) (fun i _ => l.length - (intOf i).toNat)
  case atStart => exact ⟨0, 0, Nat.zero_le _, rfl, rfl⟩
  case round =>
    obtain ⟨k, d, hk, rfl, rfl⟩ := hrel
    by_cases hlt : k < l.length
    · have hlt' : (k : Int) < (l.length : Int) := by omega
      obtain ⟨b, off, cap, x, e, hx, x0, x1, x2, x3⟩ := HV.out.at k hlt
      obtain ⟨b', off', cap', y, e', hy, y0, y1, y2, y3⟩ := HU.out.at k hlt
      simp at e e'
      obtain ⟨rfl, rfl⟩ := e
      obtain ⟨rfl, rfl⟩ := e'
      obtain rfl : x = y := by rw [hx] at hy; simpa using hy
      clear hx hy
      go_wp2_with fail
      go_quiet (fail)
      go_wp2_with fail
      exact ⟨⟨k + 1, d + nq, by omega, by go_num, rfl⟩, by simp [intOf]; omega⟩
    · have hlt' : ¬ (k : Int) < (l.length : Int) := by omega
      go_wp2_with fail
      go_ret
      exact ⟨rfl, d, rfl⟩
end Go.Proofs.YthiegmhplnbdlaaGreat

namespace Go.Proofs.YthiegmhplnbdlaaGreat
open Go.RowKit
set_option linter.unusedVariables false
theorem blk_cell {w : World} {B : Nat} {cs : Array Value} {t : TypeId} {fr : Nat × Nat} (h : w.heap[B]? = some (.cells cs t fr)) (i : Nat) (x : Value) (hi : cs[i]? = some x) : w.cell? ⟨B, i, none⟩ = some x := by
  simp only [World.cell?, h]
  simpa using hi
theorem blk_frozen {w : World} {B : Nat} {cs : Array Value} {t : TypeId} (h : w.heap[B]? = some (.cells cs t)) (i : Nat) : w.frozen? ⟨B, i, none⟩ = false := by
  simp only [World.frozen?, h]
  simp
theorem blk_set {w : World} {B : Nat} {cs : Array Value} {t : TypeId} {fr : Nat × Nat} (h : w.heap[B]? = some (.cells cs t fr)) (i : Nat) (u : Value) : (w.setCell ⟨B, i, none⟩ u).heap[B]? = some (.cells (cs.setIfInBounds i u) t fr) := by
  simp only [World.setCell, Array.getElem?_modify, h]
  simp
theorem blk_lt {w : World} {B : Nat} {o : Obj} (h : w.heap[B]? = some o) : B < w.heap.size := (Array.getElem?_eq_some_iff.1 h).1
theorem blk_up {w w' : World} {B : Nat} {o : Obj} (h : w.heap[B]? = some o) (hb : Below w.heap.size w w') : w'.heap[B]? = some o := (hb.block B (blk_lt h)).trans h
theorem blk_grown {w w' : World} {B : Nat} {o : Obj} {r : Option Nat} (h : w.heap[B]? = some o) (hg : w.grownBy w' r) (hne : some B ≠ r) : w'.heap[B]? = some o := (hg.block B (blk_lt h) hne).trans h
theorem blk_new (w : World) (o : Obj) : (w.alloc o).heap[w.heap.size]? = some o := by
  show (w.heap.push o)[w.heap.size]? = _
  simp
theorem grown_set (w : World) (a : Addr) (u : Value) : w.grownBy (w.setCell a u) (some a.block) :=
  ⟨rfl, rfl, rfl, by simp [World.setCell], fun k hk hne => Below.heap_setCell w a u k (fun e => hne (by rw [e]))⟩
theorem grown_up {w w' : World} (h : Below w.heap.size w w') (r : Option Nat) : w.grownBy w' r := ⟨h.os, h.tape, h.output, h.size, fun k hk _ => h.block k hk⟩
theorem grown_trans {a b c : World} {r : Option Nat} (h : a.grownBy b r) (k : b.grownBy c r) : a.grownBy c r :=
  ⟨k.os.trans h.os, k.tape.trans h.tape, k.output.trans h.output, Nat.le_trans h.size k.size, fun i hi hne => (k.block i (Nat.lt_of_lt_of_le hi h.size) hne).trans (h.block i hi hne)⟩
theorem below_grown {B : Nat} {w w' : World} {r : Option Nat} (hg : w.grownBy w' r) (hB : B ≤ w.heap.size) (hr : ∀ k, r = some k → B ≤ k) : Below B w w' := (Below.refl B w).grown hg hB hr
def Apart (u v : Value) : Prop := u.ownBlock = none ∨ u.ownBlock ≠ v.ownBlock
theorem Apart.symm {u v : Value} (h : Apart u v) : Apart v u := by
  unfold Apart at *
  cases hv : v.ownBlock with
  | none => exact .inl rfl
  | some b =>
    refine .inr ?_
    rcases h with h | h
    · rw [h]; simp
    · rw [hv] at h; exact fun e => h e.symm
theorem own_blk_ne {w : World} {base : Nat} {e t : TypeId} {sz : Nat} {v : Value} {n : Nat} {xs : List Value} {B : Nat} {cs : Array Value} {fr : Nat × Nat} (h : w.ownsRow base e sz v n xs) (hb : w.heap[B]? = some (.cells cs t fr)) (hne : e ≠ t) : v.ownBlock = none ∨ v.ownBlock ≠ some B := by
  rcases h.2 with ⟨rfl, _⟩ | ⟨g, cap, cur, rfl, _, hg, _⟩
  · exact .inl rfl
  · refine .inr ?_
    simp only [Value.ownBlock]
    intro q
    injection q with q
    subst q
    rw [hg] at hb
    simp at hb
    exact hne hb.2.1
theorem own_own_ne {w : World} {b1 b2 : Nat} {e1 e2 : TypeId} {s1 s2 : Nat} {v1 v2 : Value} {n1 n2 : Nat} {x1 x2 : List Value} (h1 : w.ownsRow b1 e1 s1 v1 n1 x1) (h2 : w.ownsRow b2 e2 s2 v2 n2 x2) (hne : e1 ≠ e2) : v1.ownBlock = none ∨ v1.ownBlock ≠ v2.ownBlock := by
  rcases h2.2 with ⟨rfl, _⟩ | ⟨g, cap, cur, rfl, _, hg, _⟩
  · rcases h1.2 with ⟨rfl, _⟩ | ⟨g, cap, cur, rfl, _⟩
    · exact .inl rfl
    · exact .inr (by simp [Value.ownBlock])
  · exact own_blk_ne h1 hg hne
end Go.Proofs.YthiegmhplnbdlaaGreat

namespace Go.Proofs.YthiegmhplnbdlaaGreat
open Go.RowKit
set_option linter.unusedVariables false
structure UpW (w : World) where
  val : World
  up : Below w.heap.size w val
theorem wp_region_up {id : Nat} {Q : Exit → Act → World → Prop} {a : Act} {w : World} {l : List Oper} (hm : Tryz.prog.follows .mixedOrders = true) (hB : Region.lexB .any l.toArray = true)
    (h : wpQuiet Tryz.prog l.toArray (fun w' => ∃ p : UpW w, w' = p.val) (fun a' => ∀ w', (∃ p : UpW w, w' = p.val) → Q .normal a' w') l a) : (Code.region id l.toArray true).wp Tryz.prog Q a w :=
  wp_region_quiet (C := fun w' => ∃ p : UpW w, w' = p.val) hm hB ⟨⟨w.drew, (Below.refl _ w).drew⟩, rfl⟩ (by simpa using h)
theorem calls_up {f : FuncId} {args : Array Value} {w : World} {p : UpW w} {v : Value}
    (h : Calls Tryz.prog f args p.val fun e w' => e = .returned v ∧ Below p.val.heap.size p.val w') : Calls Tryz.prog f args p.val fun e w'' => e = .returned v ∧ ∃ q : UpW w, w'' = q.val :=
  h.mono fun _ w' ⟨he, hb⟩ => ⟨he, ⟨w', up_trans p.up hb⟩, rfl⟩
theorem cell_up {w : World} {a : Addr} {v : Value} (h : w.cell? a = some v) (p : UpW w) : p.val.cell? a = some v :=
  (p.up.cell (World.block_lt_of_cell? w a h)).trans h
instance (w : World) : Inhabited (UpW w) := ⟨⟨w, Below.refl _ _⟩⟩
end Go.Proofs.YthiegmhplnbdlaaGreat

namespace Go.Proofs.YthiegmhplnbdlaaGreat
open Go.RowKit SumPlain
set_option linter.unusedVariables false
set_option linter.unusedSimpArgs false
theorem str_size (l : List Int) : (strOfNums l).size = l.length := by simp [strOfNums, ByteArray.size]
theorem str_at (l : List Int) (hl : ∀ x ∈ l, 0 ≤ x ∧ x ≤ 255) (k : Nat) (h : k < (strOfNums l).size) : (((strOfNums l)[k]'h).toNat : Int) = l.getD k 0 := by
  have hk : k < l.length := by rw [str_size] at h; exact h
  have e : (strOfNums l)[k]'h = UInt8.ofNat (l[k]).toNat := by
    show (strOfNums l).data[k]'_ = _
    simp [strOfNums]
  have hb := hl l[k] (List.getElem_mem hk)
  rw [e]
  simp [List.getD, hk]
  omega
theorem drop_at (l : List Int) (k : Nat) (hk : k < l.length) : l.drop k = l.getD k 0 :: l.drop (k + 1) := by
  rw [List.drop_eq_getElem_cons hk]
  simp [List.getD, hk]
theorem comL_nil_left (r : List Int) : comL [] r = 0 := by unfold comL; rfl
theorem comL_nil_right (l : List Int) : comL l [] = 0 := by cases l <;> (unfold comL; rfl)
def prevE (l : List En) (k : Nat) : Option En := if k = 0 then none else l[k - 1]?
theorem ordE_at (l : List En) (k : Nat) (x : En) (h : l[k]? = some x) : ordE (prevE l k) (l.drop k) = if mayE x then (if aheadE (prevE l k) x then ordE (prevE l (k + 1)) (l.drop (k + 1)) else 81) else 1 := by
  have hk := (List.getElem?_eq_some_iff.1 h).1
  rw [List.drop_eq_getElem_cons hk, (List.getElem?_eq_some_iff.1 h).2]
  rw [ordE]
  have e : prevE l (k + 1) = some x := by unfold prevE; rw [if_neg (by omega)]; exact h
  rw [e]
end Go.Proofs.YthiegmhplnbdlaaGreat
