/- Worlds that only grow: statements whose order is drawn and whose callees only lay blocks; comparisons of texts and numbers. -/
import Derived.Test.YtoceddpjkodfkaaFWith
import Derived.Lib.Bytealg
import Derived.Maps.OwnSet
namespace Go.Proofs.Ytoceddpjkodfkaa
open Go.RowKit
set_option linter.unusedVariables false

/-- A world that is w but for draws and new blocks. -/
structure UpW (w : World) where
  val : World
  up : Below w.heap.size w val

instance (w : World) : Inhabited (UpW w) := ⟨⟨w, Below.refl _ _⟩⟩

theorem wp_region_up {id : Nat} {Q : Exit → Act → World → Prop} {a : Act} {w : World} {l : List Oper} (hm : Try.prog.follows .mixedOrders = true) (hB : Region.lexB .any l.toArray = true)
    (h : wpQuiet Try.prog l.toArray (fun w' => ∃ p : UpW w, w' = p.val) (fun a' => ∀ w', (∃ p : UpW w, w' = p.val) → Q .normal a' w') l a) : (Code.region id l.toArray true).wp Try.prog Q a w :=
  wp_region_quiet (C := fun w' => ∃ p : UpW w, w' = p.val) hm hB ⟨⟨w.drew, (Below.refl _ w).drew⟩, rfl⟩ (by simpa using h)

theorem calls_up {f : FuncId} {args : Array Value} {w : World} {p : UpW w} {v : Value}
    (h : Calls Try.prog f args p.val fun e w' => e = .returned v ∧ Below p.val.heap.size p.val w') : Calls Try.prog f args p.val fun e w'' => e = .returned v ∧ ∃ q : UpW w, w'' = q.val :=
  h.mono fun _ w' ⟨he, hb⟩ => ⟨he, ⟨w', up_trans p.up hb⟩, rfl⟩

theorem cell_up {w : World} {a : Addr} {v : Value} (h : w.cell? a = some v) (p : UpW w) : p.val.cell? a = some v :=
  (p.up.cell (World.block_lt_of_cell? w a h)).trans h

theorem lessL_head (x y : Int) (h : x < y) (r q : List Int) : lessL (x :: r) (y :: q) = true := by simp [lessL, h]
theorem lessL_same (x : Int) (r q : List Int) : lessL (x :: r) (x :: q) = lessL r q := by simp [lessL]
theorem lessL_not (x y : Int) (h : y < x) (r q : List Int) : lessL (x :: r) (y :: q) = false := by
  have h1 : ¬ x < y := by omega
  have h2 : ¬ x = y := by omega
  simp [lessL, h1, h2]
theorem lessL_self : ∀ l : List Int, lessL l l = false
  | [] => rfl
  | x :: r => by rw [lessL_same, lessL_self r]
theorem lessL_trans : ∀ (a b c : List Int), lessL a b = true → lessL b c = true → lessL a c = true
  | _, _, [], _, h => by cases ‹List Int› <;> simp [lessL] at h
  | _, [], _ :: _, h, _ => by simp [lessL] at h
  | [], _ :: _, _ :: _, _, _ => by simp [lessL]
  | x :: a, y :: b, z :: c, h1, h2 => by
    have ih := lessL_trans a b c
    simp only [lessL, Bool.or_eq_true, Bool.and_eq_true, decide_eq_true_eq] at h1 h2 ⊢
    rcases h1 with h1 | ⟨h1, h1'⟩ <;> rcases h2 with h2 | ⟨h2, h2'⟩
    · left; omega
    · left; omega
    · left; omega
    · right; exact ⟨by omega, ih h1' h2'⟩

def cmpI (a b : Int) : Int := if a < b then -1 else if b < a then 1 else 0
def cmpT (s t : List Int) : Int := if lessL s t then -1 else if s = t then 0 else 1

theorem compare_list : ∀ (s t : List Int), (∀ x ∈ s, 0 ≤ x ∧ x ≤ 255) → (∀ x ∈ t, 0 ≤ x ∧ x ≤ 255) → Lib.compareBytes (s.map fun n => UInt8.ofNat n.toNat) (t.map fun n => UInt8.ofNat n.toNat) = cmpT s t
  | [], [], _, _ => by simp [Lib.compareBytes, cmpT, lessL]
  | [], y :: q, _, _ => by simp [Lib.compareBytes, cmpT, lessL]
  | x :: r, [], _, _ => by simp [Lib.compareBytes, cmpT, lessL]
  | x :: r, y :: q, hs, ht => by
    have hx := hs x (by simp)
    have hy := ht y (by simp)
    have ih := compare_list r q (fun z hz => hs z (by simp [hz])) (fun z hz => ht z (by simp [hz]))
    simp only [List.map_cons, Lib.compareBytes]
    have a1 : (UInt8.ofNat x.toNat < UInt8.ofNat y.toNat) ↔ x < y := by
      rw [UInt8.lt_iff_toNat_lt]; simp; omega
    have a2 : (UInt8.ofNat y.toNat < UInt8.ofNat x.toNat) ↔ y < x := by
      rw [UInt8.lt_iff_toNat_lt]; simp; omega
    rcases Int.lt_trichotomy x y with c | c | c
    · rw [if_pos (a1.2 c)]
      simp [cmpT, lessL_head x y c]
    · subst c
      rw [if_neg (by rw [a1]; omega), if_neg (by rw [a2]; omega), ih]
      simp [cmpT, lessL_same]
    · rw [if_neg (by rw [a1]; omega), if_pos (a2.2 c)]
      have : ¬ x = y := by omega
      simp [cmpT, lessL_not x y c, this]

theorem compare_str (s t : List Int) (hs : ∀ x ∈ s, 0 ≤ x ∧ x ≤ 255) (ht : ∀ x ∈ t, 0 ≤ x ∧ x ≤ 255) : Lib.compareBytes (strOfNums s).data.toList (strOfNums t).data.toList = cmpT s t := by
  rw [strOfNums_data, strOfNums_data]
  exact compare_list s t hs ht

set_option maxRecDepth 100000 in
theorem cmpString_any (a b : ByteArray) (w : World) : Calls Try.prog 82 #[.string a, .string b] w fun e w' => e = .returned (.int .i64 (Lib.compareBytes a.data.toList b.data.toList)) ∧ w' = w := by
  go_enter Try.func82, Try.ntmps82
  go_wp2
  rw [run_callFunc_extern Try.func85 (by kernel_rfl) (by kernel_rfl) (by kernel_rfl) (e := Extern.BytealgCompare.compare) (by kernel_rfl), Lib.run_compareString]
  simp only [Result.andThen]
  rw [Oper.upon_value]
  go_wp2
  go_ret
  exact ⟨rfl, rfl⟩

theorem strCompare_any (s t : List Int) (hs : ∀ x ∈ s, 0 ≤ x ∧ x ≤ 255) (ht : ∀ x ∈ t, 0 ≤ x ∧ x ≤ 255) (w : World) : Calls Try.prog 76 #[.string (strOfNums s), .string (strOfNums t)] w fun e w' => e = .returned (.int .i64 (cmpT s t)) ∧ w' = w := by
  go_enter Try.func76, Try.ntmps76
  go_wp2_with fail
  refine (cmpString_any _ _ _).mono ?_
  rintro e w1 ⟨rfl, rfl⟩
  rw [compare_str s t hs ht]
  go_wp2
  go_ret
  exact ⟨rfl, rfl⟩

theorem cmpInt_any (a b : Int) (w : World) : Calls Try.prog 79 #[.int .i64 a, .int .i64 b] w fun e w' => e = .returned (.int .i64 (cmpI a b)) ∧ w' = w := by
  have nan : ∀ n w, Calls Try.prog 83 #[.int .i64 n] w fun e w' => e = .returned (.bool false) ∧ w' = w := by
    intro n w
    go_enter Try.func83, Try.ntmps83
    go_wp2
    go_ret
    exact ⟨by simp, rfl⟩
  unfold cmpI
  rcases Int.lt_trichotomy a b with c | c | c
  · rw [if_pos c]
    go_enter Try.func79, Try.ntmps79
    go_wp2_with fail
    refine (nan _ _).mono ?_
    rintro e w1 ⟨rfl, rfl⟩
    go_wp2_with fail
    refine (nan _ _).mono ?_
    rintro e w1 ⟨rfl, rfl⟩
    go_wp2
    go_ret
    exact ⟨rfl, rfl⟩
  · subst c
    rw [if_neg (by omega), if_neg (by omega)]
    go_enter Try.func79, Try.ntmps79
    go_wp2_with fail
    refine (nan _ _).mono ?_
    rintro e w1 ⟨rfl, rfl⟩
    go_wp2_with fail
    refine (nan _ _).mono ?_
    rintro e w1 ⟨rfl, rfl⟩
    go_wp2
    go_ret
    exact ⟨rfl, rfl⟩
  · have c1 : ¬ a < b := by omega
    rw [if_neg c1, if_pos c]
    go_enter Try.func79, Try.ntmps79
    go_wp2_with fail
    refine (nan _ _).mono ?_
    rintro e w1 ⟨rfl, rfl⟩
    go_wp2_with fail
    refine (nan _ _).mono ?_
    rintro e w1 ⟨rfl, rfl⟩
    go_wp2
    go_ret
    exact ⟨rfl, rfl⟩

/-- '[]byte(s)': a new block that holds the text's octets and may be written. -/
theorem bytes_made (w : World) (t : List Int) (ht : ∀ x ∈ t, 0 ≤ x ∧ x ≤ 255) :
    ∃ cap w1, (convert 9 26 (.string (strOfNums t))).run Try.prog w = .ok (.slice (some ⟨w.heap.size, 0, none⟩) t.length cap) w1 ∧ t.length ≤ cap ∧ Below w.heap.size w w1 ∧
      (∀ i, i < t.length → w1.cell? ⟨w.heap.size, i, none⟩ = some (.int .u8 (t.getD i 0))) ∧ (∀ i, i < t.length → w1.frozen? ⟨w.heap.size, i, none⟩ = false) := by
  have kb := run_bytes_of_string (P := Try.prog) w 9 26 5 (strOfNums t) Try.underlying9 Try.underlying26 Try.underlying5
  rw [str_size] at kb
  have hge := grownCap_ge w t.length 0 5
  generalize grownCap w t.length 0 5 = cap at *
  refine ⟨cap, _, kb, hge, up_al (up_dr (Below.refl _ _)) _, fun i hi => ?_, fun i hi => ?_⟩
  · have := World.cell?_alloc_mark w.drew (bytesRow (strOfNums t) cap) 5 ((bytesRow (strOfNums t) cap).size, (bytesRow (strOfNums t) cap).size + 1) i
    refine this.trans ?_
    have hsi : i < (strOfNums t).size := by rw [str_size]; exact hi
    refine (bytesRow_at (strOfNums t) cap i hsi).trans ?_
    have e := str_at t ht i hsi
    exact congrArg (fun z => some (Value.int .u8 z)) e
  · refine (World.frozen?_alloc_mark w.drew _ 5 _ _ i).trans ?_
    have : i < (bytesRow (strOfNums t) cap).size := by
      have e : (bytesRow (strOfNums t) cap).size = t.length + (cap - t.length) := by
        unfold bytesRow
        rw [Array.size_append, Array.size_map, Array.size_replicate, str_size t]
        have := str_size t
        have e2 : (strOfNums t).data.size = t.length := this
        rw [e2]
      omega
    simp
    omega
end Go.Proofs.Ytoceddpjkodfkaa
