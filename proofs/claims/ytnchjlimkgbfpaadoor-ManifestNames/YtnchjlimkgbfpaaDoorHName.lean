/- The program's Name: for any kind and number it says what 'nameN' says, in new memory. -/
import Derived.Test.YtnchjlimkgbfpaaDoorHLib
import Derived.Test.YtnchjlimkgbfpaaDoorHNam
import Derived.Test.YtnchjlimkgbfpaaDoorLUp
namespace Go.Proofs.YtnchjlimkgbfpaaDoor
open Go.RowKit
set_option linter.unusedVariables false
set_option linter.unusedSimpArgs false

theorem hid {p : Prop} (h : p) : Hid p := h
/-- The library's table of powers of ten, in every world that is this one but for newer memory. -/
def Tab (w : World) : Prop := Lib.TabBelow Tryd.prog w.heap.size w "internal/strconv.uint64pow10" .u64 Lib.pow10Tab
theorem Tab.up {w w' : World} (h : Tab w) (hb : Below w.heap.size w w') : Tab w' := fun W hW => h W (hb.trans (hW.mono hb.size))
theorem Tab.low {w w' : World} (h : Tab w) (hb : Below w.heap.size w w') : Lib.TabBelow Tryd.prog w.heap.size w' "internal/strconv.uint64pow10" .u64 Lib.pow10Tab := fun W hW => h W (hb.trans hW)
theorem cells_digs : ∀ (k n : Nat), n ≤ k → 0 < n → Lib.byteCells (Lib.decDigits n) = (digs n).map (Value.int .u8)
  | 0, n, h, h0 => by omega
  | k + 1, n, h, h0 => by
    have one : ∀ m : Nat, m < 10 → Value.int .u8 ((UInt8.ofNat (48 + m)).toNat : Int) = Value.int .u8 (48 + (m : Int)) := by
      intro m hm
      have : (UInt8.ofNat (48 + m)).toNat = 48 + m := by
        rw [UInt8.toNat_ofNat']
        omega
      rw [this]
      congr 1
    rw [digs_pos h0]
    by_cases h1 : n < 10
    · rw [Lib.decDigits, dif_pos h1, show n / 10 = 0 by omega, digs_zero, show n % 10 = n by omega]
      simp only [Lib.byteCells, List.map_cons, List.map_nil, List.nil_append, one n h1]
    · rw [Lib.decDigits, dif_neg h1, Lib.byteCells, List.map_append]
      have ih := cells_digs k (n / 10) (by omega) (by omega)
      rw [Lib.byteCells] at ih
      rw [ih, List.map_append]
      simp only [List.map_cons, List.map_nil, one (n % 10) (by omega)]
theorem digs_oct (n : Nat) : ∀ x ∈ digs n, 0 ≤ x ∧ x ≤ 255 := fun x hx => by
  have := isDig_iff.1 (digs_dig n n (Nat.le_refl _) x hx)
  omega
theorem isID_any (id : Int) (w : World) : Calls Tryd.prog 15 #[.int .i64 id] w fun e w' => e = .returned (.bool (idOk id)) ∧ w' = w := by
  have H : Hid (idOk id = (decide (1 ≤ id) && decide (id ≤ 2147483647))) := rfl
  by_cases h1 : 1 ≤ id
  · by_cases h2 : id ≤ 2147483647
    · go_enter Tryd.func15, Tryd.ntmps15
      go_wp2
      go_ret
      exact ⟨ret_bool (by rw [H.out]; simp [h1, h2]), rfl⟩
    · go_enter Tryd.func15, Tryd.ntmps15
      go_wp2
      go_ret
      exact ⟨ret_bool (by rw [H.out]; simp [h1, h2]), rfl⟩
  · go_enter Tryd.func15, Tryd.ntmps15
    go_wp2
    go_ret
    exact ⟨ret_bool (by rw [H.out, decide_eq_false (by omega : ¬ 1 ≤ id)]; rfl), rfl⟩
theorem appendInt_any (id : Int) (h0 : 1 ≤ id) (h1 : id ≤ 2147483647) (k : Int) (hk : 0 ≤ k ∧ k ≤ 255) (w : World) (ht : Tab w) :
    Calls Tryd.prog 16 #[.slice (some ⟨w.heap.size, 0, none⟩) 1 1, .int .i64 id, .int .i64 10] (w.alloc (.cells #[.int .u8 k] 5)) fun e w' => ∃ v, e = .returned v ∧ Octs w' v (k :: digs id.toNat) ∧ Below w.heap.size w w' := by
  have hb : Below w.heap.size w (w.alloc (.cells #[.int .u8 k] 5)) := up_alloc w _
  have hown := World.ownsRow_lit (base := w.heap.size) (e := 5) (size := 1) w #[.int .u8 k] 1 (Nat.le_refl _) (by decide) rfl
  refine (Any.strconv_AppendInt_10 Tryd.laysAI w.heap.size 1 id (by omega) (by omega) _ _ _ hown hb.size (by decide) (ht.low hb)).mono ?_
  rintro e w' ⟨v, rfl, ho, hb2, _⟩
  refine ⟨v, rfl, ?_, hb.trans hb2⟩
  have e1 : Lib.itoa id = Lib.decDigits id.toNat := by unfold Lib.itoa; rw [if_neg (by omega)]
  rw [e1, cells_digs _ _ (Nat.le_refl _) (by omega)] at ho
  have e2 : 1 + (Lib.decDigits id.toNat).length = (k :: digs id.toNat).length := by
    have := congrArg List.length (cells_digs _ id.toNat (Nat.le_refl _) (by omega))
    simp only [Lib.byteCells, List.length_map] at this
    simp only [List.length_cons]
    omega
  rw [e2] at ho
  refine Octs.own (base := w.heap.size) ho ?_
  intro x hx
  rcases List.mem_cons.1 hx with rfl | hx
  · exact hk
  · exact digs_oct _ x hx
set_option maxHeartbeats 1000000 in
theorem name_any (k id : Int) (hk : 0 ≤ k ∧ k ≤ 255) (w : World) (ht : Tab w) : Calls Tryd.prog 5 #[.int .u8 k, .int .i64 id] w fun e w' => e = .returned (.tuple #[.string (strOfNums (nameN k id).1), .int .i64 (nameN k id).2]) ∧ Below w.heap.size w w' := by
  have HA := hid (fun h0 h1 => appendInt_any id h0 h1 k hk w ht)
  have HB : Hid (Below w.heap.size w w) := Below.refl _ _
  clear ht
  have hs : strOfNums [] = { data := #[] } := rfl
  by_cases h1 : kindOk k = true
  · by_cases h2 : idOk id = true
    · have e : nameN k id = (k :: digs id.toNat, 0) := by unfold nameN; rw [h1, h2]; rfl
      have h3 : 1 ≤ id ∧ id ≤ 2147483647 := by simpa [idOk] using h2
      have HA2 := hid (HA.out h3.1 h3.2)
      have HI := hid (isID_any id w)
      rw [h2] at HI
      have hk3 : k = 109 ∨ k = 108 ∨ k = 116 := by simpa [kindOk] using h1
      rw [e]
      clear h3 HA e h2 h1
      rcases hk3 with rfl | rfl | rfl
      all_goals
        go_enter Tryd.func5, Tryd.ntmps5
        go_wp2_with fail
        refine HI.out.mono ?_
        rintro e w' ⟨rfl, rfl⟩
        go_wp2_with fail
        refine HA2.out.mono ?_
        rintro e w' ⟨v, rfl, ho, hb⟩
        have HO := hid (fun (ty : TypeId) => run_convert_octs _ v w' ho)
        have hcv := run_convert_octs _ v w' ho
        go_wp2_with fail
        go_ret2
        exact ⟨rfl, hb⟩
    · have h2' : idOk id = false := by simpa using h2
      have e : nameN k id = ([], 4) := by unfold nameN; rw [h1, h2']; rfl
      have HI := hid (isID_any id w)
      rw [h2'] at HI
      have hk3 : k = 109 ∨ k = 108 ∨ k = 116 := by simpa [kindOk] using h1
      rw [e, hs]
      clear HA e h2 h1 h2'
      rcases hk3 with rfl | rfl | rfl
      all_goals
        go_enter Tryd.func5, Tryd.ntmps5
        go_wp2_with fail
        refine HI.out.mono ?_
        rintro e w' ⟨rfl, rfl⟩
        go_wp2_with fail
        go_ret2
        exact ⟨rfl, HB.out⟩
  · have h1' : kindOk k = false := by simpa using h1
    have e : nameN k id = ([], 22) := by unfold nameN; rw [h1']; rfl
    have hk3 : ¬ k = 109 ∧ ¬ k = 108 ∧ ¬ k = 116 := by simpa [kindOk] using h1'
    obtain ⟨q1, q2, q3⟩ := hk3
    have r1 : (k != 109) = true := by simpa using q1
    have r1b : (k = 109) = False := by simpa using q1
    have r2 : (k != 108) = true := by simpa using q2
    have r2b : (k = 108) = False := by simpa using q2
    have r3 : (k != 116) = true := by simpa using q3
    have r3b : (k = 116) = False := by simpa using q3
    rw [e, hs]
    clear HA e h1 h1'
    go_enter Tryd.func5, Tryd.ntmps5
    go_wp2_with fail
    go_ret2
    exact ⟨rfl, HB.out⟩
end Go.Proofs.YtnchjlimkgbfpaaDoor
