/- The library's Cut at a separator of one octet. -/
import Derived.Test.YtpjmieiajhhbaaaDoorDLeaf
import Derived.Lib.Strings
import Derived.Lib.Slices
import Derived.Lib.Walk
import Derived.Lib.Bytealg
namespace Go.Proofs.YtpjmieiajhhbaaaDoor
open Go.RowKit
set_option linter.unusedVariables false
set_option linter.unusedSimpArgs false

theorem index_cut (c : UInt8) : ∀ (l : List Int), (∀ x ∈ l, 0 ≤ x ∧ x ≤ 255) → Lib.indexByte (l.map fun x => UInt8.ofNat x.toNat) c = cutI l (c.toNat : Int)
  | [], _ => rfl
  | x :: l, h => by
    have ih := index_cut c l fun y hy => h y (List.mem_cons_of_mem _ hy)
    have hx := h x List.mem_cons_self
    have e : (UInt8.ofNat x.toNat == c) = decide (x = (c.toNat : Int)) := by
      rw [Bool.eq_iff_iff, beq_iff_eq, decide_eq_true_eq]
      constructor
      · intro q
        rw [← q]
        simp
        omega
      · intro q
        rw [q]
        simp
    show (if UInt8.ofNat x.toNat == c then (0 : Int) else if Lib.indexByte (l.map fun x => UInt8.ofNat x.toNat) c == -1 then -1 else Lib.indexByte (l.map fun x => UInt8.ofNat x.toNat) c + 1) = _
    rw [e, ih]
    unfold cutI
    rw [cutN_cons]
    by_cases q : x = (c.toNat : Int)
    · rw [if_pos (by simpa using q), if_pos q, if_pos (by simp)]
      rfl
    · rw [if_neg (by simpa using q), if_neg q]
      have le := cutN_le l (c.toNat : Int)
      by_cases p : cutN l (c.toNat : Int) < l.length
      · rw [if_pos p, if_neg (by simp), if_pos (by simp; omega)]
        omega
      · rw [if_neg p, if_pos (by rfl), if_neg (by simpa using p)]
set_option maxHeartbeats 1000000 in
set_option maxRecDepth 100000 in
theorem indexByte_any (s : ByteArray) (c : Int) (w : World) :
    Calls Tryd.prog 117 #[.string s, .int .u8 c] w fun e w' => e = .returned (.int .i64 (Lib.indexByte s.data.toList c.toNat.toUInt8)) ∧ w' = w := by
  go_enter Tryd.func117, Tryd.ntmps117
  go_wp2
  rw [run_callFunc_extern Tryd.func121 (by kernel_rfl) (by kernel_rfl) (by kernel_rfl) (e := Extern.BytealgIndexByte.indexByte) (by kernel_rfl), Lib.run_indexByteString]
  simp only [Result.andThen]
  rw [Oper.upon_value]
  go_wp2
  go_ret
  exact ⟨rfl, rfl⟩
set_option maxHeartbeats 1000000 in
theorem index_one (l : List Int) (hl : ∀ x ∈ l, 0 ≤ x ∧ x ≤ 255) (c : UInt8) (w : World) :
    Calls Tryd.prog 115 #[.string (strOfNums l), .string ⟨#[c]⟩] w fun e w' => e = .returned (.int .i64 (cutI l (c.toNat : Int))) ∧ w' = w := by
  have H : Hid (∀ w', Calls Tryd.prog 117 #[.string (strOfNums l), .int .u8 (c.toNat : Int)] w' fun e w'' => e = .returned (.int .i64 (cutI l (c.toNat : Int))) ∧ w'' = w') := by
    intro w'
    have := indexByte_any (strOfNums l) (c.toNat : Int) w'
    rw [show (strOfNums l).data.toList = l.map fun x => UInt8.ofNat x.toNat by simp [strOfNums], show ((c.toNat : Int).toNat.toUInt8) = c by simp, index_cut c l hl] at this
    exact this
  have cc : ∀ x ∈ [(c.toNat : Int)], 0 ≤ x ∧ x ≤ 255 := by
    intro x hx
    cases List.mem_singleton.1 hx
    have := c.toNat_lt
    omega
  have ec : (⟨#[c]⟩ : ByteArray) = strOfNums [(c.toNat : Int)] := by simp [strOfNums]
  have eq := str_eq [(c.toNat : Int)] l cc hl
  rw [show (strOfNums [(c.toNat : Int)]).toList = [c] by rw [str_list]; simp] at eq
  by_cases h : [(c.toNat : Int)] = l
  · rw [decide_eq_true h] at eq
    have E : Hid (cutI l (c.toNat : Int) = 0) := by
      rw [← h]
      unfold Hid cutI
      rw [cutN_cons, if_pos rfl, if_pos (by simp)]
      rfl
    clear ec cc
    go_enter Tryd.func115, Tryd.ntmps115
    go_wp2_with fail
    go_ret
    exact ⟨by rw [E.out]; rfl, rfl⟩
  · rw [decide_eq_false h] at eq
    clear ec cc h
    go_enter Tryd.func115, Tryd.ntmps115
    go_wp2_with fail
    refine (H.out _).mono ?_
    rintro e w1 ⟨rfl, rfl⟩
    go_wp2_with fail
    go_ret
    exact ⟨rfl, rfl⟩
/-- A text cut around the first of an octet. -/
def cutQ (l : List Int) (c : Int) : List Int × List Int × Bool := if cutN l c < l.length then (l.take (cutN l c), l.drop (cutN l c + 1), true) else (l, [], false)
set_option maxHeartbeats 1000000 in
theorem cutL_any (l : List Int) (hl : ∀ x ∈ l, 0 ≤ x ∧ x ≤ 255) (hm : l.length ≤ 140737488355328) (c : UInt8) (w : World) :
    Calls Tryd.prog 110 #[.string (strOfNums l), .string ⟨#[c]⟩] w fun e w' => e = .returned (.tuple #[.string (strOfNums (cutQ l (c.toNat : Int)).1), .string (strOfNums (cutQ l (c.toNat : Int)).2.1), .bool (cutQ l (c.toNat : Int)).2.2]) ∧ Below w.heap.size w w' := by
  have H := hid (index_one l hl c w)
  have hsz := strOfNums_size l
  by_cases h : cutN l (c.toNat : Int) < l.length
  · have E : Hid (cutQ l (c.toNat : Int) = (l.take (cutN l (c.toNat : Int)), l.drop (cutN l (c.toNat : Int) + 1), true)) := if_pos h
    have E2 : cutI l (c.toNat : Int) = (cutN l (c.toNat : Int) : Int) := if_pos h
    rw [E2] at H
    clear E2 hl
    generalize cutN l (c.toNat : Int) = k at *
    have x1 : (strOfNums l).extract 0 k = strOfNums (l.take k) := by rw [str_cut]; simp
    have x2 : (strOfNums l).extract (k + 1) (strOfNums l).size = strOfNums (l.drop (k + 1)) := by
      rw [str_cut, hsz, List.take_of_length_le (by simp)]
    rw [hsz] at x2
    go_enter Tryd.func110, Tryd.ntmps110
    go_wp2_with fail
    refine H.out.mono ?_
    rintro e w1 ⟨rfl, rfl⟩
    go_wp2_with fail
    go_quiet (fail)
    go_wp2_with fail
    go_ret3
    exact ⟨by rw [E.out, ← x1, ← x2]; rfl, up_drewN _ _⟩
  · have E : Hid (cutQ l (c.toNat : Int) = (l, [], false)) := if_neg h
    have E2 : cutI l (c.toNat : Int) = -1 := if_neg h
    rw [E2] at H
    clear E2 hl
    go_enter Tryd.func110, Tryd.ntmps110
    go_wp2_with fail
    refine H.out.mono ?_
    rintro e w1 ⟨rfl, rfl⟩
    go_wp2_with fail
    go_ret3
    exact ⟨by rw [E.out]; rfl, Below.refl _ _⟩
theorem cutS_any (l : List Int) (hl : ∀ x ∈ l, 0 ≤ x ∧ x ≤ 255) (hm : l.length ≤ 140737488355328) (c : UInt8) (w : World) :
    Calls Tryd.prog 101 #[.string (strOfNums l), .string ⟨#[c]⟩] w fun e w' => e = .returned (.tuple #[.string (strOfNums (cutQ l (c.toNat : Int)).1), .string (strOfNums (cutQ l (c.toNat : Int)).2.1), .bool (cutQ l (c.toNat : Int)).2.2]) ∧ Below w.heap.size w w' := by
  have H := hid (cutL_any l hl hm c w)
  generalize cutQ l (c.toNat : Int) = q at *
  go_enter Tryd.func101, Tryd.ntmps101
  go_wp2_with fail
  refine H.out.mono ?_
  rintro e w1 ⟨rfl, hb⟩
  go_wp2_with fail
  go_ret3
  exact ⟨rfl, hb⟩
end Go.Proofs.YtpjmieiajhhbaaaDoor
