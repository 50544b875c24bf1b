/- What Choose says, plainly. -/
import Derived.Test.YtjdibpmckeifhaaJFul
import Derived.Test.YtjdibpmckeifhaaJIds
import Derived.Test.YtjdibpmckeifhaaLInts
namespace Go.Proofs.Ytjdibpmckeifhaa
open Go.RowKit
set_option linter.unusedVariables false
set_option linter.unusedSimpArgs false

/-- What Choose says: level, IDs, bottom, whether, error. -/
structure ChoM where
  lev : Int
  ids : List Int
  bot : Bool
  has : Bool
  err : Int
def choM (ts : List Me) (seq next : Int) : ChoM :=
  if errV ts seq next = 0 then match fullM ts with
    | [] => ⟨0, [], false, false, 0⟩
    | lev :: _ => match planM ts lev with
      | none => ⟨0, [], false, false, 0⟩
      | some p => ⟨lev, (p.top ++ p.below).map (·.id), p.bot, true, 0⟩
  else ⟨0, [], false, false, 9⟩
theorem cho_err {ts : List Me} {seq next : Int} (h : errV ts seq next = 9) : choM ts seq next = ⟨0, [], false, false, 9⟩ := by
  unfold choM; rw [if_neg (by rw [h]; decide)]
theorem cho_none {ts : List Me} {seq next : Int} (h : errV ts seq next = 0) (hf : fullM ts = []) : choM ts seq next = ⟨0, [], false, false, 0⟩ := by
  unfold choM; rw [if_pos h, hf]
theorem cho_some {ts : List Me} {seq next lev : Int} {r : List Int} {p : PlanM} (h : errV ts seq next = 0) (hf : fullM ts = lev :: r) (hp : planM ts lev = some p) : choM ts seq next = ⟨lev, (p.top ++ p.below).map (·.id), p.bot, true, 0⟩ := by
  unfold choM; rw [if_pos h, hf]; simp only [hp]
theorem choM_chk {ts : List Me} {seq next : Int} (hh : (choM ts seq next).err = 0) : errV ts seq next = 0 := by
  rcases errV_cases ts seq next with h | h
  · exact h
  · rw [cho_err h] at hh; cases hh
/-- The parts of a plan. -/
theorem plan_parts {ts : List Me} {lev : Int} {p : PlanM} (hp : planM ts lev = some p) : ∃ x r, chosenM ts lev = x :: r ∧ p.top = x :: r ∧ p.low = lowM x.low (x :: r) ∧ p.high = highM x.high (x :: r) ∧ p.below = touchM ts (lev + 1) p.low p.high ∧ p.lev = lev ∧
    p.bot = ((touchM ts (lev + 2) (lowM p.low p.below) (highM p.high p.below)).isEmpty && (touchM ts (lev + 3) (lowM p.low p.below) (highM p.high p.below)).isEmpty) := by
  unfold planM at hp
  split at hp
  · cases hp
  · next x r e =>
    simp only [Option.some.injEq] at hp
    subst hp
    exact ⟨x, r, e, rfl, rfl, rfl, rfl, rfl, rfl⟩
theorem lowM_app : ∀ (l k : List Me) (s : ByteArray), lowM s (l ++ k) = lowM (lowM s l) k
  | [], k, s => rfl
  | x :: r, k, s => lowM_app r k _
theorem highM_app : ∀ (l k : List Me) (s : ByteArray), highM s (l ++ k) = highM (highM s l) k
  | [], k, s => rfl
  | x :: r, k, s => highM_app r k _
theorem full_lev {ts : List Me} {lev : Int} {r : List Int} (h : fullM ts = lev :: r) : lev = 0 ∨ lev = 1 ∨ lev = 2 := by
  rcases full_head h with q | q | q
  · exact .inl q.1
  · exact .inr (.inl q.1)
  · exact .inr (.inr q.1)
theorem full_at {ts : List Me} {lev : Int} {r : List Int} (h : fullM ts = lev :: r) : atM ts lev ≠ [] := by
  intro e
  rcases full_head h with ⟨rfl, q⟩ | ⟨rfl, q⟩ | ⟨rfl, q⟩ <;> rw [e] at q <;> simp [cntM] at q
/-- What Choose answers. -/
def ChoE (w : World) (c : ChoM) (e : Ending) (w' : World) : Prop :=
  ∃ a n cc, e = .returned (.tuple #[.agg #[.int .i64 c.lev, .slice a n cc, .bool c.bot], .bool c.has, .int .i64 c.err]) ∧ Hid (n = c.ids.length) ∧ Hid (IntsR w' (.slice a n cc) c.ids) ∧ Hid (Below w.heap.size w w')
theorem results_plan {fn : Func} {t : TypeId} {p q r : Nat} (h : fn.results = #[.cell p t, .tmp q, .tmp r]) (hl : t = 36 ∨ t = 39) (tmps : Array Value) (w : World) {N : Nat} {a b c : Value} (ht : tmps.getD p undef = .pointer (some ⟨N, 0, none⟩))
    (hc : w.heap[N]? = some (.cells #[a, b, c] t)) : (results fn tmps).run Try.prog w = .ok (.tuple #[.agg #[a, b, c], tmps.getD q undef, tmps.getD r undef]) w := by
  have c0 := blk_cell hc 0 a rfl
  have c1 := blk_cell hc 1 b rfl
  have c2 := blk_cell hc 2 c rfl
  have ht' : tmps[p]?.getD undef = .pointer (some ⟨N, 0, none⟩) := by simpa using ht
  rcases hl with rfl | rfl
  · simp only [results, h]
    simp [ht', go_sem, c0, c1, c2]
  · simp only [results, h]
    simp [ht', go_sem, c0, c1, c2]
theorem ints_len {w : World} {a : Option Addr} {n c : Nat} {l : List Int} (h : IntsR w (.slice a n c) l) : n = l.length := by
  obtain ⟨a', c', e, _, _⟩ := h.len
  simp only [Value.slice.injEq] at e
  exact e.2.1
theorem rows_mlen {w : World} {base : Nat} {e : TypeId} {a : Option Addr} {n c : Nat} {l : List Me} (h : OwnR w base e 5 (.slice a n c) (l.map meRow)) : n = l.length := by
  obtain ⟨a', c', e, _, _⟩ := (Rws.own h).len
  rw [List.length_map] at e
  simp only [Value.slice.injEq] at e
  exact e.2.1
theorem rows_oneM (l : List Me) : ∀ cs ∈ l.map meRow, ∀ u ∈ cs, u.oneCell' = true := by
  intro cs hcs u hu
  obtain ⟨x, _, rfl⟩ := List.mem_map.1 hcs
  exact meRow_one x u hu
end Go.Proofs.Ytjdibpmckeifhaa
