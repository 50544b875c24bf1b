/- keys.Compare returns, for any two slices of parts, what the plain function 'compareOf' says, and so do the functions of packages cmp, strings and slices that it calls. -/
import Derived.Test.YtjnbjooagdgfpaaAboveMath
import Derived.Lib.Bytealg
namespace Go.Proofs.Ytjnbjooagdgfpaa
open Go.RowKit
set_option linter.unusedVariables false

def cmpI (a b : Int) : Int := if a < b then -1 else if b < a then 1 else 0
def cmpT (s t : List Int) : Int := if lessL s t then -1 else if s = t then 0 else 1
/-- The order of two parts. -/
def cmpP (p q : Bool × Int × List Int) : Int := if p.1 then (if q.1 then cmpI p.2.1 q.2.1 else -1) else (if q.1 then 1 else cmpT p.2.2 q.2.2)
/-- The order of two lists of parts. -/
def cmpLs : List (Bool × Int × List Int) → List (Bool × Int × List Int) → Int
  | [], [] => 0
  | [], _ :: _ => -1
  | _ :: _, [] => 1
  | p :: a, q :: b => if cmpP p q = 0 then cmpLs a b else cmpP p q
def compareOf (a b : List (Bool × Int × List Int)) : Int × Int := if checkOf a = 0 then (if checkOf b = 0 then (cmpLs a b, 0) else (0, checkOf b)) else (0, checkOf a)

theorem compare_list : ∀ (s t : List Int), (∀ x ∈ s, 0 ≤ x ∧ x ≤ 255) → (∀ x ∈ t, 0 ≤ x ∧ x ≤ 255) → Lib.compareBytes (s.map fun n => UInt8.ofNat n.toNat) (t.map fun n => UInt8.ofNat n.toNat) = cmpT s t
  | [], [], _, _ => by simp [Lib.compareBytes, cmpT, lessL]
  | [], y :: q, _, _ => by simp [Lib.compareBytes, cmpT, lessL]
  | x :: r, [], _, _ => by simp [Lib.compareBytes, cmpT, lessL]
  | x :: r, y :: q, hs, ht => by
    have hx := hs x (by simp)
    have hy := ht y (by simp)
    have ih := compare_list r q (fun z hz => hs z (by simp [hz])) (fun z hz => ht z (by simp [hz]))
    simp only [List.map_cons, Lib.compareBytes]
    have a1 : (UInt8.ofNat x.toNat < UInt8.ofNat y.toNat) ↔ x < y := by
      rw [UInt8.lt_iff_toNat_lt]; simp; omega
    have a2 : (UInt8.ofNat y.toNat < UInt8.ofNat x.toNat) ↔ y < x := by
      rw [UInt8.lt_iff_toNat_lt]; simp; omega
    rcases Int.lt_trichotomy x y with c | c | c
    · rw [if_pos (a1.2 c)]
      simp [cmpT, lessL_head x y c]
    · subst c
      rw [if_neg (by rw [a1]; omega), if_neg (by rw [a2]; omega), ih]
      simp [cmpT, lessL_same]
    · rw [if_neg (by rw [a1]; omega), if_pos (a2.2 c)]
      have : ¬ x = y := by omega
      simp [cmpT, lessL_not x y c, this]

theorem compare_str (s t : List Int) (hs : ∀ x ∈ s, 0 ≤ x ∧ x ≤ 255) (ht : ∀ x ∈ t, 0 ≤ x ∧ x ≤ 255) : Lib.compareBytes (strOfNums s).data.toList (strOfNums t).data.toList = cmpT s t := by
  rw [strOfNums_data, strOfNums_data]
  exact compare_list s t hs ht

set_option maxRecDepth 100000 in
theorem cmpString_any (a b : ByteArray) (w : World) : Calls Try.prog 36 #[.string a, .string b] w fun e w' => e = .returned (.int .i64 (Lib.compareBytes a.data.toList b.data.toList)) ∧ w' = w := by
  go_enter Try.func36, Try.ntmps36
  go_wp2
  rw [run_callFunc_extern Try.func37 (by kernel_rfl) (by kernel_rfl) (by kernel_rfl) (e := Extern.BytealgCompare.compare) (by kernel_rfl), Lib.run_compareString]
  simp only [Result.andThen]
  rw [Oper.upon_value]
  go_wp2
  go_ret
  exact ⟨rfl, rfl⟩

theorem strCompare_any (s t : List Int) (hs : ∀ x ∈ s, 0 ≤ x ∧ x ≤ 255) (ht : ∀ x ∈ t, 0 ≤ x ∧ x ≤ 255) (w : World) : Calls Try.prog 34 #[.string (strOfNums s), .string (strOfNums t)] w fun e w' => e = .returned (.int .i64 (cmpT s t)) ∧ w' = w := by
  go_enter Try.func34, Try.ntmps34
  go_wp2_with fail
  refine (cmpString_any _ _ _).mono ?_
  rintro e w1 ⟨rfl, rfl⟩
  rw [compare_str s t hs ht]
  go_wp2
  go_ret
  exact ⟨rfl, rfl⟩

theorem cmpInt_any (a b : Int) (w : World) : Calls Try.prog 33 #[.int .i64 a, .int .i64 b] w fun e w' => e = .returned (.int .i64 (cmpI a b)) ∧ w' = w := by
  have nan : ∀ n w, Calls Try.prog 35 #[.int .i64 n] w fun e w' => e = .returned (.bool false) ∧ w' = w := by
    intro n w
    go_enter Try.func35, Try.ntmps35
    go_wp2
    go_ret
    exact ⟨by simp, rfl⟩
  unfold cmpI
  rcases Int.lt_trichotomy a b with c | c | c
  · rw [if_pos c]
    go_enter Try.func33, Try.ntmps33
    go_wp2_with fail
    refine (nan _ _).mono ?_
    rintro e w1 ⟨rfl, rfl⟩
    go_wp2_with fail
    refine (nan _ _).mono ?_
    rintro e w1 ⟨rfl, rfl⟩
    go_wp2
    go_ret
    exact ⟨rfl, rfl⟩
  · subst c
    rw [if_neg (by omega), if_neg (by omega)]
    go_enter Try.func33, Try.ntmps33
    go_wp2_with fail
    refine (nan _ _).mono ?_
    rintro e w1 ⟨rfl, rfl⟩
    go_wp2_with fail
    refine (nan _ _).mono ?_
    rintro e w1 ⟨rfl, rfl⟩
    go_wp2
    go_ret
    exact ⟨rfl, rfl⟩
  · have c1 : ¬ a < b := by omega
    rw [if_neg c1, if_pos c]
    go_enter Try.func33, Try.ntmps33
    go_wp2_with fail
    refine (nan _ _).mono ?_
    rintro e w1 ⟨rfl, rfl⟩
    go_wp2_with fail
    refine (nan _ _).mono ?_
    rintro e w1 ⟨rfl, rfl⟩
    go_wp2
    go_ret
    exact ⟨rfl, rfl⟩

set_option maxHeartbeats 1000000 in
theorem cmpP_any (p q : Bool × Int × List Int) (hp : Pwf p) (hq : Pwf q) (w : World) : Calls Try.prog 29 #[pval p, pval q] w fun e w' => e = .returned (.int .i64 (cmpP p q)) ∧ Below w.heap.size w w' := by
  obtain ⟨pb, pn, pt⟩ := p
  obtain ⟨qb, qn, qt⟩ := q
  have o1 : ∀ x ∈ pt, 0 ≤ x ∧ x ≤ 255 := hp.2.1
  have o2 : ∀ x ∈ qt, 0 ≤ x ∧ x ≤ 255 := hq.2.1
  clear hp hq
  have HB : ∀ A B, Hid (Below w.heap.size w ((w.alloc A).alloc B)) := fun A B => up_al (up_al (Below.refl _ _) A) B
  unfold pval
  cases pb <;> cases qb
  · show Calls _ _ _ _ fun e w' => e = .returned (.int .i64 (cmpT pt qt)) ∧ _
    have H1 : Hid (∀ x ∈ pt, 0 ≤ x ∧ x ≤ 255) := o1
    have H2 : Hid (∀ x ∈ qt, 0 ≤ x ∧ x ≤ 255) := o2
    clear o1 o2
    go_enter Try.func29, Try.ntmps29
    go_wp2_with fail
    refine (strCompare_any _ _ H1.out H2.out _).mono ?_
    rintro e w1 ⟨rfl, rfl⟩
    go_wp2
    go_ret
    exact ⟨rfl, (HB _ _).out⟩
  · show Calls _ _ _ _ fun e w' => e = .returned (.int .i64 1) ∧ _
    go_enter Try.func29, Try.ntmps29
    go_wp2
    go_ret
    exact ⟨rfl, (HB _ _).out⟩
  · show Calls _ _ _ _ fun e w' => e = .returned (.int .i64 (-1)) ∧ _
    go_enter Try.func29, Try.ntmps29
    go_wp2
    go_ret
    exact ⟨rfl, (HB _ _).out⟩
  · show Calls _ _ _ _ fun e w' => e = .returned (.int .i64 (cmpI pn qn)) ∧ _
    go_enter Try.func29, Try.ntmps29
    go_wp2_with fail
    refine (cmpInt_any _ _ _).mono ?_
    rintro e w1 ⟨rfl, rfl⟩
    go_wp2
    go_ret
    exact ⟨rfl, (HB _ _).out⟩
end Go.Proofs.Ytjnbjooagdgfpaa
