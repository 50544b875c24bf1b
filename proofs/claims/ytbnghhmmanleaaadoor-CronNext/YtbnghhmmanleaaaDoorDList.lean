/- The program's list of a set's numbers; texts joined. -/
import Derived.Test.YtbnghhmmanleaaaDoorDShelf
import Derived.Test.YtbnghhmmanleaaaDoorNPrint
import Derived.Test.YtbnghhmmanleaaaDoorDChk
namespace Go.Proofs.YtbnghhmmanleaaaDoor
open Go.RowKit
set_option linter.unusedVariables false
set_option linter.unusedSimpArgs false

/-- Texts with an octet between. -/
def joinI : List (List Int) → Int → List Int
  | [], _ => []
  | x :: r, c => if r = [] then x else x ++ (c :: joinI r c)
theorem joinI_cons (x : List Int) (r : List (List Int)) (c : Int) : joinI (x :: r) c = if r = [] then x else x ++ (c :: joinI r c) := rfl
theorem joinI_snoc (c : Int) (x : List Int) : ∀ xs : List (List Int), joinI (xs ++ [x]) c = if xs = [] then x else joinI xs c ++ (c :: x)
  | [] => rfl
  | y :: r => by
    have ih := joinI_snoc c x r
    rw [List.cons_append, joinI_cons y (r ++ [x]) c, if_neg (show ¬ (r ++ [x] = []) by simp), ih, if_neg (show ¬ (y :: r = []) by simp), joinI_cons y r c]
    by_cases h : r = []
    · rw [if_pos h, if_pos h]
    · rw [if_neg h, if_neg h]
      simp
def octL (l : List Int) : List UInt8 := l.map fun x => UInt8.ofNat x.toNat
theorem octL_str (l : List Int) : (strOfNums l).data.toList = octL l := by simp [strOfNums, octL]
theorem join_two (x y : List UInt8) (r : List (List UInt8)) (sep : List UInt8) : Lib.join (x :: y :: r) sep = x ++ (sep ++ Lib.join (y :: r) sep) := by
  rw [Lib.join_cons, Lib.join_cons]
  simp [Lib.joinTail]
theorem join_is (c : UInt8) : ∀ xs : List (List Int), Lib.join (xs.map octL) [c] = octL (joinI xs (c.toNat : Int))
  | [] => rfl
  | [x] => Lib.join_one _ _
  | x :: y :: r => by
    have ih := join_is c (y :: r)
    rw [List.map_cons] at ih
    rw [List.map_cons, List.map_cons, join_two, ih, joinI_cons x (y :: r), if_neg (show ¬ (y :: r = []) by simp)]
    unfold octL
    rw [List.map_append, List.map_cons]
    simp
theorem str_octL (l : List Int) : (⟨(octL l).toArray⟩ : ByteArray) = strOfNums l := by simp [octL, strOfNums]
theorem join_any (xs : List (List Int)) (c : UInt8) (v : Value) (w : World) (h : TextsW w v xs) (hb : (joinI xs (c.toNat : Int)).length ≤ 140737488355328) (hN : xs.length ≤ 1000000) :
    Calls Tryd.prog 28 #[v, .string ⟨#[c]⟩] w fun e w' => e = .returned (.string (strOfNums (joinI xs (c.toNat : Int)))) ∧ Below w.heap.size w w' := by
  by_cases h0 : xs = []
  · subst h0
    obtain ⟨a, cap, rfl, -, -⟩ := h.len
    exact (Tryd.strings_Join_none a cap ⟨#[c]⟩ w).mono fun e w' ⟨he, hw⟩ => ⟨he, hw ▸ Below.refl _ _⟩
  · have hpos : 0 < xs.length := List.length_pos_iff.2 h0
    obtain ⟨b, off, cap, rfl, hc0⟩ := h.at 0 hpos
    obtain ⟨a', cap', e', hcap, -⟩ := h.len
    injection e' with e1 e2 e3
    subst e3
    have hc : ∀ k, k < xs.length → w.cell? ⟨b, off + k, none⟩ = some (.string (strOfNums (xs.getD k []))) := by
      intro k hk
      obtain ⟨b2, off2, cap2, e2, hc⟩ := h.at k hk
      injection e2 with e1 e2 e3
      injection e1 with e1
      injection e1 with e1 e4 e5
      subst e1 e4
      exact hc
    have J := Tryd.strings_Join b off cap (xs.map strOfNums) ⟨#[c]⟩ w ?_ (World.block_lt_of_cell? w _ hc0) (by rw [List.length_map]; omega) (by rw [List.length_map]; omega) ?_
    · have e : ((xs.map strOfNums).map (·.data.toList)) = xs.map octL := by
        rw [List.map_map]
        exact List.map_congr_left fun x _ => octL_str x
      rw [e, show (⟨#[c]⟩ : ByteArray).data.toList = [c] from rfl, join_is c xs, str_octL, List.length_map] at J
      exact J
    · intro j x hj
      rw [List.getElem?_map] at hj
      cases hx : xs[j]? with
      | none => rw [hx] at hj; cases hj
      | some y =>
        rw [hx] at hj
        cases hj
        have hjl : j < xs.length := by
          by_cases q : j < xs.length
          · exact q
          · rw [List.getElem?_eq_none (by omega)] at hx
            cases hx
        have := hc j hjl
        rw [List.getD_eq_getElem?_getD, hx] at this
        exact this
    · have e : ((xs.map strOfNums).map (·.data.toList)) = xs.map octL := by
        rw [List.map_map]
        exact List.map_congr_left fun x _ => octL_str x
      rw [e, show (⟨#[c]⟩ : ByteArray).data.toList = [c] from rfl, join_is c xs]
      unfold octL
      rw [List.length_map]
      exact hb
/-! ### a set's numbers -/
def numT (s k : Nat) : List (List Int) := ((List.range k).filter s.testBit).map twoD
theorem numT_next (s k : Nat) : numT s (k + 1) = if s.testBit k then numT s k ++ [twoD k] else numT s k := by
  unfold numT
  rw [List.range_succ, List.filter_append, List.map_append]
  by_cases h : s.testBit k = true
  · rw [if_pos h, List.filter_cons_of_pos h]
    rfl
  · rw [if_neg h, List.filter_cons_of_neg h]
    simp
theorem numT_same (s : Nat) {a b : Nat} (h : a ≤ b) (hn : ∀ j, a ≤ j → j < b → s.testBit j = false) : numT s b = numT s a := by
  induction b with
  | zero => rw [show a = 0 by omega]
  | succ b ih =>
    by_cases e : a = b + 1
    · rw [e]
    · rw [numT_next, if_neg (by rw [hn b (by omega) (by omega)]; simp)]
      exact ih (by omega) fun j h1 h2 => hn j h1 (by omega)
theorem numT_len (s k : Nat) : (numT s k).length ≤ k := by
  unfold numT
  rw [List.length_map]
  exact Nat.le_trans (List.length_filter_le _ _) (by rw [List.length_range]; exact Nat.le_refl _)
theorem twoD_ne (k : Nat) : twoD k ≠ [] := by unfold twoD; split <;> simp
theorem join_nums (s : Nat) : ∀ k, joinI (numT s k) 44 = listF s k ∧ (numT s k = [] ↔ listF s k = [])
  | 0 => ⟨rfl, by simp [numT, listF]⟩
  | k + 1 => by
    obtain ⟨h1, h2⟩ := join_nums s k
    rw [numT_next, listF_next]
    by_cases h : s.testBit k = true
    · rw [if_pos h, if_pos h, joinI_snoc]
      by_cases q : numT s k = []
      · rw [if_pos q, if_pos (h2.1 q)]
        exact ⟨rfl, by simp [twoD_ne]⟩
      · rw [if_neg q, if_neg (fun r => q (h2.2 r)), h1]
        exact ⟨rfl, by simp⟩
    · rw [if_neg h, if_neg h]
      exact ⟨h1, h2⟩
theorem dec_two (i : Nat) (h : i < 100) : (⟨(Lib.decDigits i).toArray⟩ : ByteArray) = strOfNums (twoD i) := by
  rw [← str_octL]
  congr 2
  rw [Lib.decDigits]
  unfold twoD octL
  by_cases c : i < 10
  · rw [dif_pos c, if_neg (by omega)]
    simp only [List.map_cons, List.map_nil]
    congr 2
    omega
  · rw [dif_neg c, if_pos (by omega), Lib.decDigits, dif_pos (by omega)]
    simp only [List.map_cons, List.map_nil, List.cons_append, List.nil_append]
    have e1 : (48 + (i : Int) / 10).toNat = 48 + i / 10 := by omega
    have e2 : (48 + (i : Int) % 10).toNat = 48 + i % 10 := by omega
    rw [e1, e2]
theorem itoa_any (i : Nat) (hi : i < 100) (w : World) : Calls Tryd.prog 46 #[.int .i64 (i : Int)] w fun e w' => e = .returned (.string (strOfNums (twoD i))) ∧ w' = w := by
  have := Tryd.strconv_Itoa_small i hi w
  rw [dec_two i hi] at this
  exact this
/-- What a round of the numbers finds. -/
def LsAt (s n : Nat) (ok : Bool) (d : List (List Int)) : Prop := (ok = true ∧ n < 64 ∧ s.testBit n = true ∧ d = numT s n) ∨ (ok = false ∧ d = numT s 64)
theorem LsAt.first (s : Nat) (hs : s < 18446744073709551616) : LsAt s (leastN s 0) (leastB s 0) [] := by
  rcases least_spec s 0 hs with ⟨a, b, c, d, e⟩ | ⟨a, b, c⟩
  · left
    exact ⟨a, c, d, (numT_same s (a := 0) (by omega) e).symm⟩
  · right
    exact ⟨a, (numT_same s (a := 0) (b := 64) (by omega) fun j h1 h2 => c j h1).symm⟩
theorem LsAt.next {s n : Nat} {d : List (List Int)} (hs : s < 18446744073709551616) (h : LsAt s n true d) : LsAt s (leastN s (n + 1)) (leastB s (n + 1)) (d ++ [twoD n]) ∧ n < 64 ∧ d.length ≤ 64 ∧ (leastB s (n + 1) = true → n < leastN s (n + 1)) := by
  rcases h with ⟨-, h1, h2, rfl⟩ | ⟨h, -⟩
  · have e : numT s n ++ [twoD n] = numT s (n + 1) := by rw [numT_next, if_pos h2]
    have l := numT_len s n
    rw [e]
    rcases least_spec s (n + 1) hs with ⟨a, b, c, d, e⟩ | ⟨a, b, c⟩
    · exact ⟨.inl ⟨a, c, d, (numT_same s b e).symm⟩, h1, by omega, fun _ => by omega⟩
    · exact ⟨.inr ⟨a, (numT_same s (by omega) fun j h1 h2 => c j h1).symm⟩, h1, by omega, fun q => by rw [a] at q; cases q⟩
  · cases h
theorem leastN_le (s k : Nat) (hs : s < 18446744073709551616) : leastN s k ≤ 64 := by
  rcases least_spec s k hs with ⟨-, -, c, -⟩ | ⟨-, c, -⟩ <;> omega
set_option maxHeartbeats 1000000 in
set_option maxRecDepth 20000 in
theorem list_any (s : Nat) (hs : s < 18446744073709551616) (w : World) (he : Env w) :
    Calls Tryd.prog 27 #[.int .u64 (s : Int)] w fun e w' => e = .returned (.string (strOfNums (listF s 64))) ∧ Below w.heap.size w w' := by
  have HL : Hid (∀ k : Nat, k ≤ 64 → ∀ w', Below w.heap.size w w' → Calls Tryd.prog 45 #[.int .u64 (s : Int), .int .i64 (k : Int)] w' fun e w'' => e = .returned (.tuple #[.int .i64 (leastN s k : Nat), .bool (leastB s k)]) ∧ w'' = w') := fun k hk w' hb => least_any s k hs hk w' (he.up hb)
  have HI : Hid (∀ n : Nat, n < 64 → ∀ w', Calls Tryd.prog 46 #[.int .i64 (n : Int)] w' fun e w'' => e = .returned (.string (strOfNums (twoD n))) ∧ w'' = w') := fun n hn w' => itoa_any n (by omega) w'
  have HJ : Hid (∀ v w', TextsW w' v (numT s 64) → Calls Tryd.prog 28 #[v, .string { data := #[44] }] w' fun e w'' => e = .returned (.string (strOfNums (listF s 64))) ∧ Below w'.heap.size w' w'') := by
    intro v w' h
    have e44 : ((44 : UInt8).toNat : Int) = 44 := rfl
    have jn := (join_nums s 64).1
    have ll := listF_len s 64
    have := join_any (numT s 64) 44 v w' h (by rw [e44, jn]; omega) (by have := numT_len s 64; omega)
    rw [e44, jn] at this
    exact this
  have L0 := hid (HL.out 0 (by omega) w (Below.refl _ _))
  have F0 := hid (LsAt.first s hs)
  have NX := hid (fun n d (h : LsAt s n true d) => LsAt.next hs h)
  have LE := hid (fun k => leastN_le s k hs)
  clear he
  go_enter Tryd.func27, Tryd.ntmps27
  go_wp2_with fail
  refine L0.out.mono ?_
  rintro e w1 ⟨rfl, rfl⟩
  clear L0
  have l0 := LE.out 0
  generalize leastN s 0 = n0 at *
  generalize leastB s 0 = o0 at *
  go_wp2_with fail
  go_loopw [3, 4, 5] (fun v q b wr => ∃ (n : Nat) (o : Bool) (d : List (List Int)) (a : Option Addr) (m c : Nat), v = .slice a m c ∧ q = .int .i64 (n : Int) ∧ b = .bool o ∧ Hid (LsAt s n o d) ∧ Hid (OwnR wr w1.heap.size 9 1 (.slice a m c) (d.map srow)) ∧ Hid (Below w1.heap.size w1 wr)) (fun _ q b _ => flagN b * (65 - (intOf q).toNat))
  case atStart => exact ⟨n0, o0, [], none, 0, 0, rfl, rfl, rfl, F0, OwnR.nil _ _ _ _, Below.refl _ _⟩
  case round =>
    obtain ⟨n, o, d, a, m, c, rfl, rfl, rfl, HA, HO, HB⟩ := hrel
    cases o
    · have hd : d = numT s 64 := by
        rcases HA.out with ⟨h, -⟩ | ⟨-, h⟩
        · cases h
        · exact h
      subst hd
      have TW := hid (Rws.own HO.out : Rws 1 wr (.slice a m c) _)
      have J1 := hid (HJ.out (.slice a m c) wr TW.out)
      clear HA HO HJ HL HI NX F0
      go_wp2_with fail
      refine J1.out.mono ?_
      rintro e w2 ⟨rfl, hb2⟩
      go_wp2_with fail
      go_ret
      exact ⟨rfl, up_trans HB.out hb2⟩
    · obtain ⟨hn1, hn2, hn3, hn4⟩ := NX.out n d HA.out
      have HN1 := hid hn1
      have HN4 := hid hn4
      have I1 := hid (HI.out n hn2 wr)
      have L1 : Hid (∀ w', Below w1.heap.size w1 w' → Calls Tryd.prog 45 #[.int .u64 (s : Int), .int .i64 ((n : Int) + 1)] w' fun e w'' => e = .returned (.tuple #[.int .i64 (leastN s (n + 1) : Nat), .bool (leastB s (n + 1))]) ∧ w'' = w') := fun w' hb => HL.out (n + 1) (by omega) w' hb
      have l1 := LE.out (n + 1)
      have hsize := HB.out.size
      clear hn1 hn4 HA HL HI HJ NX F0
      generalize leastN s (n + 1) = n1 at *
      generalize leastB s (n + 1) = o1 at *
      go_wp2_with fail
      refine I1.out.mono ?_
      rintro e w2 ⟨rfl, rfl⟩
      go_wp2_with (at_builtin; refine wpList_append_row _ rfl _ _ 56 9 (.string ⟨#[]⟩) 1 16 rfl Tryd.underlying56 infoS rfl (by decide) w1.heap.size _ (d.map srow) rfl HO.out (srow (twoD n)) _ _ rfl rfl rfl rfl ?o1 ?c1 ?c2 ?c3 ?_)
      try case o1 =>
        intro u hu
        cases List.mem_singleton.1 hu
        rfl
      try case c1 => (first | omega | (simp only [List.length_map]; omega))
      try case c2 => (first | omega | (unfold maxLen; omega) | (simp only [List.length_map, maxLen]; omega))
      try case c3 => exact hsize
      intro v' w3 hown hb3
      have HB3 : Hid (Below w1.heap.size w1 w3) := HB.out.trans hb3
      have HO3 : Hid (OwnR w3 w1.heap.size 9 1 v' ((d ++ [twoD n]).map srow)) := by
        rw [List.map_append]
        exact hown
      obtain ⟨a', c', e', _, _⟩ := (Rws.own HO3.out : Rws 1 w3 v' _).len
      rw [List.length_map] at e'
      obtain ⟨n', hn'⟩ : ∃ n', n' = (d ++ [twoD n]).length := ⟨_, rfl⟩
      rw [← hn'] at e'
      subst e'
      clear hown hb3 hn'
      go_wp2_with fail
      refine (L1.out _ HB3.out).mono ?_
      rintro e w4 ⟨rfl, rfl⟩
      go_wp2_with fail
      refine ⟨⟨n1, o1, d ++ [twoD n], a', n', c', rfl, rfl, rfl, HN1, HO3, HB3⟩, ?_⟩
      cases o1
      · simp [flagN, intOf]; omega
      · have := HN4.out rfl
        simp [flagN, intOf]; omega
end Go.Proofs.YtbnghhmmanleaaaDoor
