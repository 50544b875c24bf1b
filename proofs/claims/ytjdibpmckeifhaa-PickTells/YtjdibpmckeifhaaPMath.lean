/- Layer 12, plain: which levels are full, what a span touches, what is chosen. -/
import Derived.Test.YtjdibpmckeifhaaEMath
namespace Go.Proofs.Ytjdibpmckeifhaa
set_option linter.unusedVariables false
set_option linter.unusedSimpArgs false

/-- The tables of a level. -/
def atM (ts : List Me) (lev : Int) : List Me := ts.filter (fun m => decide (m.lvl = lev))
def cntM (l : List Me) : Int := (l.map (·.cnt)).sum
def fullM (ts : List Me) : List Int :=
  (if 4 ≤ (atM ts 0).length then [0] else []) ++ ((if 128 < cntM (atM ts 1) then [1] else []) ++ (if 512 < cntM (atM ts 2) then [2] else []))
def hitM (low high : ByteArray) (m : Me) : Bool := leM low high && (leM m.low high && leM low m.high)
def touchM (ts : List Me) (lev : Int) (low high : ByteArray) : List Me := (atM ts lev).filter (hitM low high)
/-- The first of the greatest count. -/
def bestM : Me → List Me → Me
  | b, [] => b
  | b, m :: r => bestM (if b.cnt < m.cnt then m else b) r
def chosenM (ts : List Me) (lev : Int) : List Me :=
  if lev = 0 then atM ts 0 else match atM ts lev with
    | [] => []
    | m :: r => [bestM m r]
def minK (a b : ByteArray) : ByteArray := if Op.bytesLess b.toList a.toList then b else a
def maxK (a b : ByteArray) : ByteArray := if Op.bytesLess a.toList b.toList then b else a
def lowM : ByteArray → List Me → ByteArray
  | s, [] => s
  | s, m :: r => lowM (minK s m.low) r
def highM : ByteArray → List Me → ByteArray
  | s, [] => s
  | s, m :: r => highM (maxK s m.high) r
structure PlanM where
  lev : Int
  top : List Me
  low : ByteArray
  high : ByteArray
  below : List Me
  bot : Bool
/-- What is chosen of a level. -/
def planM (ts : List Me) (lev : Int) : Option PlanM :=
  match chosenM ts lev with
  | [] => none
  | m :: r =>
    let low := lowM m.low (m :: r)
    let high := highM m.high (m :: r)
    let below := touchM ts (lev + 1) low high
    let low2 := lowM low below
    let high2 := highM high below
    some ⟨lev, m :: r, low, high, below, (touchM ts (lev + 2) low2 high2).isEmpty && (touchM ts (lev + 3) low2 high2).isEmpty⟩

theorem leM_refl (a : ByteArray) : leM a a = true := by unfold leM; simp
theorem leM_trans {a b c : ByteArray} (h1 : leM a b = true) (h2 : leM b c = true) : leM a c = true := by
  unfold leM at *
  simp only [Bool.or_eq_true, beq_iff_eq] at *
  rcases h1 with h1 | h1 <;> rcases h2 with h2 | h2
  · exact .inl (bl_transM _ _ _ h1 h2)
  · rw [← h2]; exact .inl h1
  · rw [h1]; exact .inl h2
  · exact .inr (h1.trans h2)
theorem leM_of_less {a b : ByteArray} (h : Op.bytesLess a.toList b.toList = true) : leM a b = true := by unfold leM; simp [h]
theorem leM_of_not {a b : ByteArray} (h : ¬ Op.bytesLess b.toList a.toList = true) : leM a b = true := by
  cases hc : leM a b
  · exact absurd (leM_not.1 hc) h
  · rfl
theorem minK_left (a b : ByteArray) : leM (minK a b) a = true := by
  unfold minK
  split
  · exact leM_of_less (by assumption)
  · exact leM_refl _
theorem minK_right (a b : ByteArray) : leM (minK a b) b = true := by
  unfold minK
  split
  · exact leM_refl _
  · exact leM_of_not (by assumption)
theorem maxK_left (a b : ByteArray) : leM a (maxK a b) = true := by
  unfold maxK
  split
  · exact leM_of_less (by assumption)
  · exact leM_refl _
theorem maxK_right (a b : ByteArray) : leM b (maxK a b) = true := by
  unfold maxK
  split
  · exact leM_refl _
  · exact leM_of_not (by assumption)
theorem lowM_le : ∀ (l : List Me) (s : ByteArray), leM (lowM s l) s = true ∧ ∀ m ∈ l, leM (lowM s l) m.low = true
  | [], s => ⟨leM_refl _, fun m h => by cases h⟩
  | x :: r, s => by
    obtain ⟨h1, h2⟩ := lowM_le r (minK s x.low)
    refine ⟨leM_trans h1 (minK_left _ _), fun m hm => ?_⟩
    rcases List.mem_cons.1 hm with rfl | hm
    · exact leM_trans h1 (minK_right _ _)
    · exact h2 m hm
theorem highM_ge : ∀ (l : List Me) (s : ByteArray), leM s (highM s l) = true ∧ ∀ m ∈ l, leM m.high (highM s l) = true
  | [], s => ⟨leM_refl _, fun m h => by cases h⟩
  | x :: r, s => by
    obtain ⟨h1, h2⟩ := highM_ge r (maxK s x.high)
    refine ⟨leM_trans (maxK_left _ _) h1, fun m hm => ?_⟩
    rcases List.mem_cons.1 hm with rfl | hm
    · exact leM_trans (maxK_right _ _) h1
    · exact h2 m hm
/-- IDs tell tables apart. -/
theorem id_one {next : Int} {ts : List Me} (h : allM next [] ts = true) {a b : Me} (ha : a ∈ ts) (hb : b ∈ ts) (e : a.id = b.id) : a = b := by
  obtain ⟨i, hi⟩ := List.getElem?_of_mem ha
  obtain ⟨k, hk⟩ := List.getElem?_of_mem hb
  rcases Nat.lt_trichotomy i k with q | q | q
  · exact absurd e (chk_apart h k i a b hi hk q).1
  · subst q; rw [hi] at hk; exact Option.some.inj hk
  · exact absurd e.symm (chk_apart h i k b a hk hi q).1
theorem id_in {next : Int} {ts : List Me} (h : allM next [] ts = true) {l : List Me} (hl : ∀ m ∈ l, m ∈ ts) {a : Me} (ha : a ∈ ts) : a.id ∈ l.map (·.id) ↔ a ∈ l := by
  constructor
  · intro q
    obtain ⟨b, hb, e⟩ := List.mem_map.1 q
    exact (id_one h (hl b hb) ha e) ▸ hb
  · exact fun q => List.mem_map.2 ⟨a, q, rfl⟩
theorem mem_at {ts : List Me} {lev : Int} {m : Me} : m ∈ atM ts lev ↔ m ∈ ts ∧ m.lvl = lev := by unfold atM; simp
theorem mem_touch {ts : List Me} {lev : Int} {low high : ByteArray} {m : Me} : m ∈ touchM ts lev low high ↔ m ∈ ts ∧ m.lvl = lev ∧ hitM low high m = true := by
  unfold touchM
  rw [List.mem_filter, mem_at]
  exact and_assoc
theorem bestM_mem : ∀ (r : List Me) (b : Me), bestM b r ∈ b :: r
  | [], b => List.mem_cons_self
  | m :: r, b => by
    unfold bestM
    have h := bestM_mem r (if b.cnt < m.cnt then m else b)
    split at h
    · split
      · exact List.mem_cons_of_mem _ h
      · contradiction
    · split
      · contradiction
      · rcases List.mem_cons.1 h with h | h
        · rw [h]; exact List.mem_cons_self
        · exact List.mem_cons_of_mem _ (List.mem_cons_of_mem _ h)
theorem mem_chosen {ts : List Me} {lev : Int} {m : Me} (h : m ∈ chosenM ts lev) : m ∈ ts ∧ m.lvl = lev := by
  unfold chosenM at h
  split at h
  · next e => subst e; exact mem_at.1 h
  · split at h
    · cases h
    · next x r e =>
      simp only [List.mem_singleton] at h
      subst h
      exact mem_at.1 (e ▸ bestM_mem r x)
/-- What PickTouches wants. -/
theorem touches_in {next : Int} {ts : List Me} (h : allM next [] ts = true) (lev : Int) (low high : ByteArray) {m : Me} (hm : m ∈ ts) : m.id ∈ (touchM ts lev low high).map (·.id) ↔ m.lvl = lev ∧ hitM low high m = true := by
  rw [id_in h (fun x hx => (mem_touch.1 hx).1) hm, mem_touch]
  exact ⟨fun q => q.2, fun q => ⟨hm, q⟩⟩
/-- What PickWhole wants: on the next level nothing is left that has a key in common with what is chosen above. -/
theorem plan_whole {ts : List Me} {lev : Int} {p : PlanM} (hp : planM ts lev = some p) {o m : Me} (ho : o ∈ p.top) (hm : m ∈ ts) (hl : m.lvl = lev + 1) (hn : m ∉ p.below) (hoo : leM o.low o.high = true) : ¬ (leM o.low m.high = true ∧ leM m.low o.high = true) := by
  unfold planM at hp
  split at hp
  · cases hp
  · next x r e =>
    simp only [Option.some.injEq] at hp
    subst hp
    simp only at ho hn
    rintro ⟨h1, h2⟩
    refine hn (mem_touch.2 ⟨hm, hl, ?_⟩)
    have a := (lowM_le (x :: r) x.low).2 o ho
    have b := (highM_ge (x :: r) x.high).2 o ho
    unfold hitM
    rw [leM_trans a (leM_trans hoo b), leM_trans h2 b, leM_trans a h1]
    rfl
/-- What PickBottom wants: nothing deeper has a key of what is chosen. -/
theorem plan_bottom {ts : List Me} {lev : Int} {p : PlanM} (hp : planM ts lev = some p) (hb : p.bot = true) {a b : Me} (ha : a ∈ p.top ∨ a ∈ p.below) (hbt : b ∈ ts) (hl : b.lvl = lev + 2 ∨ b.lvl = lev + 3) (haa : leM a.low a.high = true) : ¬ (leM a.low b.high = true ∧ leM b.low a.high = true) := by
  unfold planM at hp
  split at hp
  · cases hp
  · next x r e =>
    simp only [Option.some.injEq] at hp
    subst hp
    simp only [Bool.and_eq_true, List.isEmpty_iff] at ha hb
    rintro ⟨h1, h2⟩
    have c := lowM_le (touchM ts (lev + 1) (lowM x.low (x :: r)) (highM x.high (x :: r))) (lowM x.low (x :: r))
    have d := highM_ge (touchM ts (lev + 1) (lowM x.low (x :: r)) (highM x.high (x :: r))) (highM x.high (x :: r))
    obtain ⟨lo, hi⟩ : leM (lowM (lowM x.low (x :: r)) (touchM ts (lev + 1) (lowM x.low (x :: r)) (highM x.high (x :: r)))) a.low = true ∧ leM a.high (highM (highM x.high (x :: r)) (touchM ts (lev + 1) (lowM x.low (x :: r)) (highM x.high (x :: r)))) = true := by
      rcases ha with ha | ha
      · exact ⟨leM_trans c.1 ((lowM_le (x :: r) x.low).2 a ha), leM_trans ((highM_ge (x :: r) x.high).2 a ha) d.1⟩
      · exact ⟨c.2 a ha, d.2 a ha⟩
    have hh : hitM (lowM (lowM x.low (x :: r)) (touchM ts (lev + 1) (lowM x.low (x :: r)) (highM x.high (x :: r)))) (highM (highM x.high (x :: r)) (touchM ts (lev + 1) (lowM x.low (x :: r)) (highM x.high (x :: r)))) b = true := by
      unfold hitM
      rw [leM_trans lo (leM_trans haa hi), leM_trans h2 hi, leM_trans lo h1]
      rfl
    rcases hl with hl | hl
    · have := mem_touch.2 ⟨hbt, hl, hh⟩
      rw [hb.1] at this
      cases this
    · have := mem_touch.2 ⟨hbt, hl, hh⟩
      rw [hb.2] at this
      cases this
/-- What PickFull wants. -/
theorem full_zero (ts : List Me) : 0 ∈ fullM ts ↔ 4 ≤ (atM ts 0).length := by unfold fullM; simp
theorem full_one (ts : List Me) : 1 ∈ fullM ts ↔ 128 < cntM (atM ts 1) := by unfold fullM; simp
theorem full_two (ts : List Me) : 2 ∈ fullM ts ↔ 512 < cntM (atM ts 2) := by unfold fullM; simp
theorem full_three (ts : List Me) : 3 ∉ fullM ts := by unfold fullM; simp
theorem full_len (ts : List Me) : (fullM ts).length ≤ 3 := by
  unfold fullM
  split <;> split <;> split <;> simp
theorem full_head {ts : List Me} {lev : Int} {r : List Int} (h : fullM ts = lev :: r) : (lev = 0 ∧ 4 ≤ (atM ts 0).length) ∨ (lev = 1 ∧ 128 < cntM (atM ts 1)) ∨ (lev = 2 ∧ 512 < cntM (atM ts 2)) := by
  have hm : lev ∈ fullM ts := by rw [h]; exact List.mem_cons_self
  unfold fullM at hm
  simp only [List.mem_append] at hm
  rcases hm with hm | hm | hm <;> split at hm <;> simp at hm <;> subst hm
  · exact .inl ⟨rfl, by assumption⟩
  · exact .inr (.inl ⟨rfl, by assumption⟩)
  · exact .inr (.inr ⟨rfl, by assumption⟩)
/-- Of a full level something is chosen. -/
theorem plan_some {ts : List Me} {lev : Int} {r : List Int} (h : fullM ts = lev :: r) : ∃ p, planM ts lev = some p := by
  have hne : chosenM ts lev ≠ [] := by
    rcases full_head h with ⟨rfl, q⟩ | ⟨rfl, q⟩ | ⟨rfl, q⟩
    · unfold chosenM
      rw [if_pos rfl]
      intro e
      rw [e] at q
      simp at q
    · unfold chosenM
      rw [if_neg (by decide)]
      cases e : atM ts 1 with
      | nil => rw [e] at q; simp [cntM] at q
      | cons x r => simp
    · unfold chosenM
      rw [if_neg (by decide)]
      cases e : atM ts 2 with
      | nil => rw [e] at q; simp [cntM] at q
      | cons x r => simp
  unfold planM
  split
  · next e => exact absurd e hne
  · exact ⟨_, rfl⟩
/-! ### loops -/
theorem bestM_snoc : ∀ (l : List Me) (b m : Me), bestM b (l ++ [m]) = if (bestM b l).cnt < m.cnt then m else bestM b l
  | [], b, m => rfl
  | x :: r, b, m => by
    simp only [List.cons_append, bestM]
    exact bestM_snoc r _ m
theorem bestM_self (x : Me) (r : List Me) : bestM x (x :: r) = bestM x r := by
  simp only [bestM]
  rw [if_neg (by omega)]
theorem lowM_snoc : ∀ (l : List Me) (s : ByteArray) (m : Me), lowM s (l ++ [m]) = minK (lowM s l) m.low
  | [], s, m => rfl
  | x :: r, s, m => by
    simp only [List.cons_append, lowM]
    exact lowM_snoc r _ m
theorem highM_snoc : ∀ (l : List Me) (s : ByteArray) (m : Me), highM s (l ++ [m]) = maxK (highM s l) m.high
  | [], s, m => rfl
  | x :: r, s, m => by
    simp only [List.cons_append, highM]
    exact highM_snoc r _ m
theorem less_not {a b : ByteArray} (h : Op.bytesLess a.toList b.toList = true) : ¬ Op.bytesLess b.toList a.toList = true := by
  intro q
  have := bl_transM _ _ _ h q
  rw [bl_selfM] at this
  cases this
theorem minK_idem (a b : ByteArray) : minK (minK a b) b = minK a b := by
  unfold minK
  split
  · rw [if_neg (by rw [bl_selfM]; decide)]
  · rfl
theorem maxK_idem (a b : ByteArray) : maxK (maxK a b) b = maxK a b := by
  unfold maxK
  split
  · rw [if_neg (by rw [bl_selfM]; decide)]
  · rfl
/-- Those of a level whose IDs a touch tells are what it touches. -/
theorem at_filter_touch {next : Int} {ts : List Me} (h : allM next [] ts = true) (lev : Int) (low high : ByteArray) : (atM ts lev).filter (fun m => decide (m.id ∈ (touchM ts lev low high).map (·.id))) = touchM ts lev low high := by
  have e : touchM ts lev low high = (atM ts lev).filter (hitM low high) := rfl
  rw [e]
  refine List.filter_congr fun m hm => ?_
  obtain ⟨h1, h2⟩ := mem_at.1 hm
  have := touches_in h lev low high h1
  rw [e] at this
  rw [Bool.eq_iff_iff, decide_eq_true_iff, this]
  exact ⟨fun q => q.2, fun q => ⟨h2, q⟩⟩
/-- One list of tables, told by IDs, in another: as many. -/
theorem nodup_ts {next : Int} {ts : List Me} (h : allM next [] ts = true) : ts.Nodup := by
  rw [List.nodup_iff_pairwise_ne, List.pairwise_iff_getElem]
  intro i k hi hk hik e
  exact (chk_apart h k i _ _ (List.getElem?_eq_getElem hi) (List.getElem?_eq_getElem hk) hik).1 (by rw [e])
theorem count_in {next : Int} {ts : List Me} (h : allM next [] ts = true) {l : List Me} (hl : ∀ m ∈ l, m ∈ ts) (hn : l.Nodup) : (ts.filter (fun m => decide (m.id ∈ l.map (·.id)))).length = l.length := by
  refine List.Perm.length_eq ((List.perm_ext_iff_of_nodup ((nodup_ts h).filter _) hn).2 fun m => ?_)
  rw [List.mem_filter]
  constructor
  · rintro ⟨h1, h2⟩
    exact (id_in h hl h1).1 (by simpa using h2)
  · exact fun q => ⟨hl m q, by simpa using List.mem_map.2 ⟨m, q, rfl⟩⟩
theorem nodup_chosen {next : Int} {ts : List Me} (h : allM next [] ts = true) (lev : Int) : (chosenM ts lev).Nodup := by
  unfold chosenM
  split
  · exact (nodup_ts h).filter _
  · split
    · exact List.nodup_nil
    · simp
theorem nodup_plan {next : Int} {ts : List Me} (h : allM next [] ts = true) {lev : Int} {p : PlanM} (hp : planM ts lev = some p) : (p.top ++ p.below).Nodup ∧ (∀ m ∈ p.top, m ∈ ts ∧ m.lvl = lev) ∧ (∀ m ∈ p.below, m ∈ ts ∧ m.lvl = lev + 1) := by
  have hc := nodup_chosen h lev
  have hm := @mem_chosen ts lev
  unfold planM at hp
  split at hp
  · cases hp
  · next x r e =>
    simp only [Option.some.injEq] at hp
    subst hp
    rw [e] at hc hm
    have hb : ∀ m ∈ touchM ts (lev + 1) (lowM x.low (x :: r)) (highM x.high (x :: r)), m ∈ ts ∧ m.lvl = lev + 1 := fun m q => ⟨(mem_touch.1 q).1, (mem_touch.1 q).2.1⟩
    refine ⟨List.nodup_append.2 ⟨hc, ((nodup_ts h).filter _).filter _, ?_⟩, fun m q => hm q, hb⟩
    intro a ha b hb' e2
    have h1 := (hm ha).2
    have h2 := (hb b hb').2
    rw [e2] at h1
    omega
/-- Of level 0 all are chosen. -/
theorem chosen_zero (ts : List Me) : chosenM ts 0 = atM ts 0 := if_pos rfl
end Go.Proofs.Ytjdibpmckeifhaa
