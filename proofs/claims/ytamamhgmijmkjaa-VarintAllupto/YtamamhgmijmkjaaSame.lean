/- Two slices of octets are held against each other (SameBytes): true just where the octets are one; and what a slice of octets is to later worlds. -/
import Derived.Test.YtamamhgmijmkjaaGetAny
import Derived.Laws.BytesArg
namespace Go.Proofs.Ytamamhgmijmkjaa
open Go.RowKit
set_option linter.unusedVariables false

theorem run_convert_octs (l : List Int) (v : Value) (w : World) (hv : Octs w v l) : (convert 23 9 v).run Try.prog w = .ok (.string (strOfNums l)) w := by
  obtain ⟨hx, hv⟩ := hv
  rcases hv with ⟨rfl, a, cap, rfl, _⟩ | ⟨hne, b, off, cap, rfl, hcap, hm, hc⟩
  · cases a with
    | none => exact run_convert_bytes_nil w 23 5 Try.underlying23 Try.underlying5 0 cap 9 Try.underlying9
    | some a =>
      have hl : (loadCells a 0).run Try.prog w = .ok (([] : List Int).map (Value.int .u8)).toArray w := by
        have := run_loadCells_list (P := Try.prog) w a [] (fun j v hj => by simp at hj)
        simpa using this
      rw [run_convert_bytes_string w 23 9 5 _ 0 cap Try.underlying23 Try.underlying5 Try.underlying9, run_bytesToString w _ 0 cap [] hl]
      rfl
  · exact run_convert_bytes_arg w 23 5 Try.underlying23 Try.underlying5 b off _ cap l rfl (fun i hi => hc i _ (by simp [List.getD, hi])) 9 Try.underlying9


theorem octet_inj (x y : Int) (hx : 0 ≤ x ∧ x ≤ 255) (hy : 0 ≤ y ∧ y ≤ 255) (h : UInt8.ofNat x.toNat = UInt8.ofNat y.toNat) : x = y := by
  have := congrArg UInt8.toNat h
  simp at this
  omega

theorem nums_inj : ∀ (l1 l2 : List Int), (∀ x ∈ l1, 0 ≤ x ∧ x ≤ 255) → (∀ x ∈ l2, 0 ≤ x ∧ x ≤ 255) → (l1.map fun n => UInt8.ofNat n.toNat) = (l2.map fun n => UInt8.ofNat n.toNat) → l1 = l2
  | [], [], _, _, _ => rfl
  | [], _ :: _, _, _, h => by simp at h
  | _ :: _, [], _, _, h => by simp at h
  | x :: l1, y :: l2, h1, h2, h => by
    simp only [List.map_cons, List.cons.injEq] at h
    rw [octet_inj x y (h1 x (by simp)) (h2 y (by simp)) h.1, nums_inj l1 l2 (fun z hz => h1 z (by simp [hz])) (fun z hz => h2 z (by simp [hz])) h.2]

theorem str_list (l : List Int) : (strOfNums l).toList = l.map fun n => UInt8.ofNat n.toNat := by
  simp [strOfNums]

theorem str_eq (l1 l2 : List Int) (h1 : ∀ x ∈ l1, 0 ≤ x ∧ x ≤ 255) (h2 : ∀ x ∈ l2, 0 ≤ x ∧ x ≤ 255) : ((strOfNums l1).toList == (strOfNums l2).toList) = decide (l1 = l2) := by
  rw [str_list, str_list]
  by_cases h : l1 = l2
  · subst h; simp
  · rw [decide_eq_false h, beq_eq_false_iff_ne]
    exact fun e => h (nums_inj l1 l2 h1 h2 e)

theorem ret_bool {a b : Bool} (h : a = b) : Ending.returned (.bool a) = .returned (.bool b) := by rw [h]

theorem same_any (l1 l2 : List Int) (v1 v2 : Value) (w : World) (h1 : Octs w v1 l1) (h2 : Octs w v2 l2) :
    Calls Try.prog 14 #[v1, v2] w fun e w' => e = .returned (.bool (decide (l1 = l2))) ∧ w' = w := by
  have k1 := run_convert_octs l1 v1 w h1
  have k2 := run_convert_octs l2 v2 w h2
  have H : Hid (((strOfNums l1).toList == (strOfNums l2).toList) = decide (l1 = l2)) := str_eq l1 l2 h1.1 h2.1
  go_enter Try.func14, Try.ntmps14
  go_wp2
  go_ret
  exact ⟨ret_bool H.out, rfl⟩

theorem num_any (n : Int) (w : World) : Calls Try.prog 17 #[.int .i64 n] w fun e w' => e = .returned (.int .i64 n) ∧ w' = w := by
  go_enter Try.func17, Try.ntmps17
  go_wp2
  go_ret
  exact ⟨rfl, rfl⟩

theorem Octs.moved {w w' : World} {v : Value} {l : List Int} (h : Octs w v l) (e : ∀ b off x, l ≠ [] → v.ownBlock = some b → w.cell? ⟨b, off, none⟩ = some x → w'.cell? ⟨b, off, none⟩ = some x) : Octs w' v l := by
  obtain ⟨hx, hv⟩ := h
  refine ⟨hx, ?_⟩
  rcases hv with h0 | ⟨hn, b, off, cap, rfl, hc, hm, hj⟩
  · exact .inl h0
  · exact .inr ⟨hn, b, off, cap, rfl, hc, hm, fun j x hx => e b (off + j) _ hn rfl (hj j x hx)⟩

theorem Octs.drewN {w : World} {v : Value} {l : List Int} (h : Octs w v l) (d : Nat) : Octs (w.drewN d) v l :=
  h.moved fun _ _ _ _ _ hc => hc

theorem Octs.below {B : Nat} {w w' : World} {v : Value} {l : List Int} (h : Octs w v l) (hb : Below B w w') (hB : ∀ k, v.ownBlock = some k → l ≠ [] → k < B) : Octs w' v l :=
  h.moved fun b off x hn hv hc => (hb.cell (p := ⟨b, off, none⟩) (hB b hv hn)).trans hc

/-- What the call itself made, read as octets. -/
theorem Octs.own {w : World} {base : Nat} {v : Value} {l : List Int} (h : w.ownsRow base 5 1 v l.length (l.map (Value.int .u8))) (hx : ∀ x ∈ l, 0 ≤ x ∧ x ≤ 255) : Octs w v l := by
  obtain ⟨_, h2⟩ := h
  refine ⟨hx, ?_⟩
  rcases h2 with ⟨rfl, h0⟩ | ⟨g, cap, cur, rfl, hg, hh, hn, hm, hs, ht⟩
  · exact .inl ⟨List.length_eq_zero_iff.1 h0, _, _, rfl, fun _ => rfl⟩
  · by_cases hl : l = []
    · subst hl
      exact .inl ⟨rfl, _, _, rfl, fun h => by cases h⟩
    · refine .inr ⟨hl, g, 0, cap, rfl, hn, hm, fun j x hj => ?_⟩
      have hj' : (l.map (Value.int .u8))[j]? = some (.int .u8 x) := by simp [hj]
      rw [← ht, List.getElem?_take] at hj'
      split at hj'
      · simp only [World.cell?, hh, Nat.zero_add]
        simpa using hj'
      · cases hj'
end Go.Proofs.Ytamamhgmijmkjaa
