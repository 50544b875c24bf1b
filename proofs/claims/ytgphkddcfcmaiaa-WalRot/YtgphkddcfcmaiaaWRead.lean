/- The reader of layer 6: octets taken, numbers, texts and changes read; where there are none it panics with the error's number. -/
import Derived.Test.YtgphkddcfcmaiaaWLaw
import Derived.Defers
import Derived.Recover
namespace Go.Proofs.Ytgphkddcfcmaiaa
open Go.RowKit SumPlain
set_option linter.unusedVariables false

/-- A panic with an error's number. -/
def panics (x : Int) : Ending := .panicked [{ v := .iface 29 (.int .i64 x), recovered := false }]

/-- The reader at N has the octets l left; they lie in elder memory (that of w0), which is as it was. -/
def Rd (w0 w : World) (N : Nat) (l : List Int) : Prop :=
  Below w0.heap.size w0 w ∧ w0.heap.size ≤ N ∧ ∃ a c, w.heap[N]? = some (.cells #[.slice a l.length c] 99) ∧ Octs w0 (.slice a l.length c) l

theorem Rd.up {w0 w w' : World} {N : Nat} {l : List Int} (h : Rd w0 w N l) (hb : Below w.heap.size w w') : Rd w0 w' N l := by
  obtain ⟨h1, h2, a, c, h3, h4⟩ := h
  exact ⟨h1.trans (hb.mono h1.size), h2, a, c, blk_up h3 hb, h4⟩

theorem Rd.grown {w0 w w' : World} {N : Nat} {l : List Int} {r : Option Nat} (h : Rd w0 w N l) (hg : w.grownBy w' r) (hr : ∀ g, r = some g → w0.heap.size ≤ g ∧ g ≠ N) : Rd w0 w' N l := by
  obtain ⟨h1, h2, a, c, h3, h4⟩ := h
  exact ⟨h1.grown hg h1.size (fun k hk => (hr k hk).1), h2, a, c, blk_grown h3 hg (fun e => (hr N e.symm).2 rfl), h4⟩

/-- The reader's slice is set to what is left. -/
theorem Rd.set {w0 w : World} {N : Nat} {l l' : List Int} {a : Option Addr} {c : Nat} (h : Rd w0 w N l) (h4 : Octs w0 (.slice a l'.length c) l') : Rd w0 (w.setCell ⟨N, 0, none⟩ (.slice a l'.length c)) N l' := by
  obtain ⟨h1, h2, a0, c0, h3, _⟩ := h
  exact ⟨h1.grown (grown_set _ _ _) h1.size (fun k hk => by simp at hk; omega), h2, a, c, blk_set h3 0 _, h4⟩

/-- What is left behind the first n octets, as Go cuts it. -/
def cutA (a : Option Addr) (c n : Nat) : Option Addr := if c = n then a else a.map (fun x => ⟨x.block, x.off + n, x.spot⟩)

theorem octs_first {w : World} {a : Option Addr} {c n : Nat} {l : List Int} (h : Octs w (.slice a l.length c) l) (hn : n ≤ l.length) : Octs w (.slice a n c) (l.take n) := by
  cases a with
  | none =>
    obtain ⟨hx, hv⟩ := h
    rcases hv with ⟨rfl, a, cap, e, ha⟩ | ⟨hne, b, off, cap, e, _⟩
    · simp at e hn
      obtain ⟨rfl, rfl⟩ := e
      subst hn
      exact ⟨by simp, .inl ⟨by simp, _, _, rfl, ha⟩⟩
    · simp at e
  | some x =>
    by_cases hl : l = []
    · subst hl
      simp at hn
      subst hn
      exact ⟨by simp, .inl ⟨by simp, _, _, rfl, fun e => by cases e⟩⟩
    · obtain ⟨hx, hv⟩ := h
      rcases hv with ⟨h0, _⟩ | ⟨_, b, off, cap, e, h1, h2, h3⟩
      · exact absurd h0 hl
      · simp at e
        obtain ⟨rfl, rfl⟩ := e
        exact Octs.cut ⟨hx, .inr ⟨hl, b, off, c, rfl, h1, h2, h3⟩⟩ rfl n hn

theorem octs_rest {w : World} {b off c n : Nat} {l : List Int} (h : Octs w (.slice (some ⟨b, off, none⟩) l.length c) l) (hn : n ≤ l.length) (hc : l.length ≤ c) : Octs w (.slice (some ⟨b, off + n, none⟩) (l.length - n) (c - n)) (l.drop n) := h.back rfl n hn hc
theorem octs_none {w : World} {x : Option Addr} {c n : Nat} {l : List Int} (hn : n = l.length) (hx : x ≠ none) : Octs w (.slice x (l.length - n) c) (l.drop n) := by
  subst hn
  rw [List.drop_length, Nat.sub_self]
  exact ⟨by simp, .inl ⟨rfl, _, _, rfl, fun e => absurd e hx⟩⟩

/-- The shapes a reader's slice can have. -/
theorem Octs.form {w : World} {a : Option Addr} {c : Nat} {l : List Int} (h : Octs w (.slice a l.length c) l) : (a = none ∧ l = [] ∧ c = 0) ∨ (∃ x, a = some x ∧ l = []) ∨ (∃ b off, a = some ⟨b, off, none⟩ ∧ l ≠ [] ∧ l.length ≤ c ∧ c ≤ maxLen) := by
  obtain ⟨hx, hv⟩ := h
  rcases hv with ⟨rfl, a', cap, e, ha⟩ | ⟨hne, b, off, cap, e, h1, h2, h3⟩
  · simp at e
    obtain ⟨rfl, rfl⟩ := e
    cases a with
    | none => exact .inl ⟨rfl, rfl, ha rfl⟩
    | some x => exact .inr (.inl ⟨x, rfl, rfl⟩)
  · simp at e
    obtain ⟨rfl, rfl⟩ := e
    exact .inr (.inr ⟨b, off, rfl, hne, h1, h2⟩)

theorem take_bad (N n : Nat) (l : List Int) (w0 w : World) (h : Rd w0 w N l) (hn : l.length < n) (hn2 : n ≤ 65536) :
    Calls Try.prog 67 #[.pointer (some ⟨N, 0, none⟩), .int .i64 n] w fun e w' => e = panics 8 ∧ w' = w := by
  obtain ⟨h1, h2, a, c, h3, h4⟩ := h
  have p0 := blk_cell h3 0 _ rfl
  have g : (l.length : Int) < (n : Int) := by omega
  clear h1 h2 h3 h4
  go_enter Try.func67, Try.ntmps67
  go_wp2
  exact ⟨rfl, rfl, rfl⟩

set_option maxHeartbeats 1000000 in
theorem take_ok (N n : Nat) (l : List Int) (w0 w : World) (h : Rd w0 w N l) (hn : n ≤ l.length) (hn2 : n ≤ 65536) :
    Calls Try.prog 67 #[.pointer (some ⟨N, 0, none⟩), .int .i64 n] w fun e w' => ∃ a c, e = .returned (.slice a n c) ∧ Hid (Octs w0 (.slice a n c) (l.take n)) ∧ Hid (Rd w0 w' N (l.drop n)) ∧ Hid (w.grownBy w' (some N)) := by
  have HR : Hid (Rd w0 w N l) := h
  obtain ⟨h1, h2, a, c, h3, h4⟩ := h
  have p0 := blk_cell h3 0 _ rfl
  have z0 := blk_frozen h3 0
  have g : ¬ (l.length : Int) < (n : Int) := by omega
  have HF : Hid (Octs w0 (.slice a n c) (l.take n)) := octs_first h4 hn
  have HL : Hid ((l.drop n).length = l.length - n) := List.length_drop
  have HS : Hid (∀ a' c', Octs w0 (.slice a' (l.length - n) c') (l.drop n) → Rd w0 (w.setCell ⟨N, 0, none⟩ (.slice a' (l.length - n) c')) N (l.drop n)) := by
    intro a' c' ho
    have e := HL.out
    rw [← e] at ho ⊢
    exact HR.out.set ho
  clear h1 h2 h3
  rcases h4.form with ⟨rfl, rfl, rfl⟩ | ⟨x, rfl, rfl⟩ | ⟨b, off, rfl, hne, hc, hm⟩
  · simp at hn
    subst hn
    have H0 : Hid (Octs w0 (.slice none 0 0) []) := h4
    clear h4 g
    simp only [List.length_nil, Nat.sub_zero, List.drop_nil, List.take_nil] at p0 HS HF ⊢
    have HS2 : Hid (Rd w0 (w.setCell ⟨N, 0, none⟩ (.slice none 0 0)) N []) := HS.out _ _ H0.out
    clear HS
    go_enter Try.func67, Try.ntmps67
    go_wp2
    go_ret
    exact ⟨_, _, rfl, HF, HS2, grown_set _ _ _⟩
  · simp at hn
    subst hn
    have H0 : Hid (∀ x c, Octs w0 (.slice (some x) 0 c) []) := fun x c => ⟨by simp, .inl ⟨rfl, _, _, rfl, fun e => by cases e⟩⟩
    clear h4 g
    simp only [List.length_nil, Nat.sub_zero, List.drop_nil, List.take_nil] at p0 HS HF ⊢
    have HS2 : Hid (∀ x c, Rd w0 (w.setCell ⟨N, 0, none⟩ (.slice (some x) 0 c)) N []) := fun x c => HS.out _ _ (H0.out _ _)
    clear HS
    go_enter Try.func67, Try.ntmps67
    go_wp2
    all_goals
      go_ret
      exact ⟨_, _, rfl, HF, HS2.out _ _, grown_set _ _ _⟩
  · by_cases hcn : c = n
    · obtain rfl : n = l.length := by omega
      obtain rfl : c = l.length := hcn
      simp only [List.take_length, List.drop_length, Nat.sub_self] at HF HS ⊢
      have HS2 : Hid (∀ x c, Rd w0 (w.setCell ⟨N, 0, none⟩ (.slice (some x) 0 c)) N []) := fun x c => HS.out _ _ ⟨by simp, .inl ⟨rfl, _, _, rfl, fun e => by cases e⟩⟩
      clear HS h4 HL
      unfold maxLen at hm
      go_enter Try.func67, Try.ntmps67
      go_wp2
      go_ret
      exact ⟨_, _, rfl, HF, HS2.out _ _, grown_set _ _ _⟩
    · have HS2 : Hid (Rd w0 (w.setCell ⟨N, 0, none⟩ (.slice (some ⟨b, off + n, none⟩) (l.length - n) (c - n))) N (l.drop n)) := HS.out _ _ (octs_rest h4 hn hc)
      clear HS h4
      unfold maxLen at hm
      go_enter Try.func67, Try.ntmps67
      go_wp2
      go_ret
      exact ⟨_, _, rfl, HF, HS2, grown_set _ _ _⟩
end Go.Proofs.Ytgphkddcfcmaiaa
