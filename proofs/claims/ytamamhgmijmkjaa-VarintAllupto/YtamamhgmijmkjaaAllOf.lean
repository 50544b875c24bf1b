/- varint.All and the document's All return, for any octets of at most 2^40 bytes, the numbers that they are made of and the error just as the plain function 'allOf' says, in memory of their own, and change nothing that was there. -/
import Derived.Test.YtamamhgmijmkjaaRefGet
import Derived.Deep.LoopGhost
import Derived.BigCall
namespace Go.Proofs.Ytamamhgmijmkjaa
open Go.RowKit
set_option linter.unusedVariables false

theorem Try.info22 : (Try.prog.info? 22).map (fun i => (i.zero, i.size, i.bytes)) = some (some (.int .u64 0), 1, 8) := by kernel_rfl

/-- All, from the octets that are left and the numbers that were told: at most f numbers more. -/
def allAux : Nat → List Int → List Int → List Int × Int
  | 0, _, a => (a, 0)
  | f + 1, l, a => if l = [] then (a, 0) else if (getOf l).2.2 = 0 then allAux f (l.drop (getOf l).2.1.toNat) (a ++ [(getOf l).1]) else ([], (getOf l).2.2)

def allOf (l : List Int) : List Int × Int := allAux l.length l []

def lenOf : Value → Nat
  | .slice _ n _ => n
  | _ => 0

theorem ownsRow_drewN {w : World} {base : Nat} {e : TypeId} {v : Value} {n : Nat} {xs : List Value} (h : w.ownsRow base e 1 v n xs) (d : Nat) : (w.drewN d).ownsRow base e 1 v n xs := h

theorem getOf_of_ret {l : List Int} {n k e : Int} (h : getRet l = .tuple #[.int .u64 n, .int .i64 k, .int .i64 e]) : getOf l = (n, k, e) := by
  unfold getRet at h
  simp at h
  obtain ⟨h1, h2, h3⟩ := h
  rw [← h1, ← h2, ← h3]

/-- Where no error is told a number has an octet at least. -/
theorem get_steps (l : List Int) (hx : ∀ x ∈ l, 0 ≤ x ∧ x ≤ 255) (he : (getOf l).2.2 = 0) : 1 ≤ (getOf l).2.1.toNat := by
  rcases get_says l hx with h | h | ⟨n, j, h, _, _, j1, _⟩
  · rw [getOf_of_ret h] at he; simp at he
  · rw [getOf_of_ret h] at he; simp at he
  · rw [getOf_of_ret h]; simpa using j1

theorem all_fuel : ∀ (n : Nat) (l a : List Int) (f : Nat), (∀ x ∈ l, 0 ≤ x ∧ x ≤ 255) → l.length ≤ n → l.length ≤ f → allAux f l a = allAux l.length l a
  | 0, l, a, f, hx, hn, hf => by
    have : l = [] := List.length_eq_zero_iff.1 (by omega)
    subst this
    cases f <;> simp [allAux]
  | n + 1, l, a, f, hx, hn, hf => by
    cases l with
    | nil => cases f <;> simp [allAux]
    | cons y r =>
      simp only [List.length_cons] at hn hf
      obtain ⟨g, rfl⟩ : ∃ g, f = g + 1 := ⟨f - 1, by omega⟩
      rw [List.length_cons]
      unfold allAux
      by_cases he : (getOf (y :: r)).2.2 = 0
      · have hk := get_steps (y :: r) hx he
        rw [if_neg (by simp), if_pos he, if_neg (by simp), if_pos he]
        have hd : ((y :: r).drop (getOf (y :: r)).2.1.toNat).length ≤ r.length := by
          rw [List.length_drop, List.length_cons]; omega
        have ho : ∀ x ∈ (y :: r).drop (getOf (y :: r)).2.1.toNat, 0 ≤ x ∧ x ≤ 255 := fun x h => hx x (List.mem_of_mem_drop h)
        rw [all_fuel n _ _ g ho (by omega) (by omega), all_fuel n _ _ r.length ho (by omega) (by omega)]
      · rw [if_neg (by simp), if_neg he, if_neg (by simp), if_neg he]

theorem all_good {l a : List Int} {n : Int} {j : Nat} (hx : ∀ x ∈ l, 0 ≤ x ∧ x ≤ 255) (hl : l ≠ []) (h : getRet l = .tuple #[.int .u64 n, .int .i64 j, .int .i64 0]) (j1 : 1 ≤ j) :
    allAux (l.drop j).length (l.drop j) (a ++ [n]) = allAux l.length l a := by
  cases l with
  | nil => exact absurd rfl hl
  | cons y r =>
    have e := getOf_of_ret h
    rw [List.length_cons]
    have st : allAux (r.length + 1) (y :: r) a = allAux r.length ((y :: r).drop (getOf (y :: r)).2.1.toNat) (a ++ [(getOf (y :: r)).1]) := by
      conv => lhs; unfold allAux
      rw [if_neg (by simp), if_pos (by rw [e])]
    rw [st, e]
    show _ = allAux r.length ((y :: r).drop ((j : Int).toNat)) (a ++ [n])
    rw [Int.toNat_natCast]
    have hd : ((y :: r).drop j).length ≤ r.length := by rw [List.length_drop, List.length_cons]; omega
    rw [all_fuel r.length _ _ r.length (fun x h => hx x (List.mem_of_mem_drop h)) hd hd]

theorem all_bad {l a : List Int} {n k e : Int} (hl : l ≠ []) (h : getRet l = .tuple #[.int .u64 n, .int .i64 k, .int .i64 e]) (he : e ≠ 0) : allAux l.length l a = ([], e) := by
  cases l with
  | nil => exact absurd rfl hl
  | cons y r =>
    have q := getOf_of_ret h
    rw [List.length_cons]
    unfold allAux
    rw [if_neg (by simp), q, if_neg he]

theorem Octs.skip {w : World} {b off cap : Nat} {l : List Int} (h : Octs w (.slice (some ⟨b, off, none⟩) l.length cap) l) (hl : l ≠ []) (j : Nat) (hj : j ≤ l.length) :
    (cap = j → Octs w (.slice (some ⟨b, off, none⟩) (l.length - j) 0) (l.drop j)) ∧ (¬ cap = j → Octs w (.slice (some ⟨b, off + j, none⟩) (l.length - j) (cap - j)) (l.drop j)) := by
  obtain ⟨hx, h0⟩ := h
  have hlen : (l.drop j).length = l.length - j := List.length_drop
  have ho : ∀ x ∈ l.drop j, 0 ≤ x ∧ x ≤ 255 := fun x h => hx x (List.mem_of_mem_drop h)
  rcases h0 with ⟨e, _⟩ | ⟨_, b', off', cap', hv, hc, hm, hcell⟩
  · exact absurd e hl
  simp only [Value.slice.injEq, Option.some.injEq, Addr.mk.injEq] at hv
  obtain ⟨⟨rfl, rfl, _⟩, _, rfl⟩ := hv
  refine ⟨fun hcj => ⟨ho, .inl ?_⟩, fun hcj => ⟨ho, ?_⟩⟩
  · have e0 : l.length - j = 0 := by omega
    rw [e0] at hlen ⊢
    exact ⟨List.length_eq_zero_iff.1 hlen, _, _, rfl, fun h => by cases h⟩
  · by_cases h0 : l.drop j = []
    · rw [h0] at hlen ⊢
      simp at hlen
      rw [← hlen]
      exact .inl ⟨rfl, _, _, rfl, fun h => by cases h⟩
    · refine .inr ⟨h0, b, off + j, cap - j, by rw [hlen], by omega, by omega, fun i x hi => ?_⟩
      rw [List.getElem?_drop] at hi
      have := hcell (j + i) x hi
      rw [Nat.add_assoc]
      exact this

set_option maxHeartbeats 1000000 in
theorem all_any (l : List Int) (v : Value) (w : World) (hv : Octs w v l) (hl : l.length ≤ 1099511627776) :
    Calls Try.prog 23 #[v] w fun e w' => ∃ v', e = .returned (.tuple #[v', .int .i64 (allOf l).2]) ∧ w'.ownsRow w.heap.size 22 1 v' (allOf l).1.length ((allOf l).1.map (Value.int .u64)) ∧ Below w.heap.size w w' := by
  have HV : Hid (Octs w v l) := hv
  clear hv
  obtain ⟨i0, hi, hz0, hz1, hz2⟩ := info_parts Try.info22
  go_enter Try.func23, Try.ntmps23
  go_wp2
  go_loopw [0, 4] (fun vb vl wr => ∃ rest a : List Int, Hid (Octs w vb rest) ∧ Hid (wr.ownsRow w.heap.size 22 1 vl a.length (a.map (Value.int .u64))) ∧ Hid (Below w.heap.size w wr) ∧ Hid (allAux rest.length rest a = allOf l) ∧ a.length + rest.length ≤ l.length) (fun vb _ _ => lenOf vb)
  case atStart => exact ⟨l, [], HV, World.ownsRow_nil _ _ _ _, Below.refl _ _, rfl, by simp⟩
  case round =>
    obtain ⟨rest, a, HO, HW, HB, HA, hlen⟩ := hrel
    rcases HO.out.2 with ⟨rfl, ad, cap, rfl, _⟩ | ⟨hne, b, off, cap, rfl, hc, hm, hcell⟩
    · go_wp2
      go_ret2
      have e : allOf l = (a, 0) := HA.out.symm
      rw [e]
      exact ⟨_, rfl, HW.out, HB.out⟩
    · clear hcell
      unfold maxLen at hm
      have hpos : (0 : Int) < (rest.length : Int) := by have := List.length_pos_iff.2 hne; omega
      have bad : ∀ m : Int, m ≠ 0 → getRet rest = .tuple #[.int .u64 0, .int .i64 0, .int .i64 m] → allOf l = ([], m) := fun m hm h => HA.out.symm.trans (all_bad hne h hm)
      rcases get_says rest HO.out.1 with hr | hr | ⟨n, j, hr, n0, n1, j1, jl, hj, j9⟩
      · have e : Hid (allOf l = ([], 8)) := bad 8 (by decide) hr
        have HR : Hid (getRet rest = .tuple #[.int .u64 0, .int .i64 0, .int .i64 8]) := hr
        clear hr bad
        go_wp2_with fail
        refine (get_any rest _ _ (HO.out.up HB.out)).mono ?_
        rintro e w1 ⟨rfl, d1, rfl⟩
        rw [HR.out]
        go_wp2
        go_ret2
        rw [e.out]
        exact ⟨_, rfl, World.ownsRow_nil _ _ _ _, up_trans HB.out (up_drewN _ _)⟩
      · have e : Hid (allOf l = ([], 4)) := bad 4 (by decide) hr
        have HR : Hid (getRet rest = .tuple #[.int .u64 0, .int .i64 0, .int .i64 4]) := hr
        clear hr bad
        go_wp2_with fail
        refine (get_any rest _ _ (HO.out.up HB.out)).mono ?_
        rintro e w1 ⟨rfl, d1, rfl⟩
        rw [HR.out]
        go_wp2
        go_ret2
        rw [e.out]
        exact ⟨_, rfl, World.ownsRow_nil _ _ _ _, up_trans HB.out (up_drewN _ _)⟩
      · have HR : Hid (getRet rest = .tuple #[.int .u64 n, .int .i64 j, .int .i64 0]) := hr
        clear hr hj bad
        have hjc : (j : Int) ≤ (cap : Int) := by omega
        go_wp2_with fail
        refine (get_any rest _ _ (HO.out.up HB.out)).mono ?_
        rintro e w1 ⟨rfl, d1, rfl⟩
        rw [HR.out]
        go_wp2_with (at_builtin; refine wpList_append_own _ rfl _ _ 37 rfl w.heap.size 22 i0 (.int .u64 0) 1 8 Try.underlying37 hi hz0 hz1 hz2 rfl (by decide) _ _ _ rfl ((ownsRow_drewN HW.out d1).alloc _) ⟨wr.heap.size, 0, none⟩ 1 1 [.int .u64 n] rfl rfl ?c1 ?c2 ?c3 ?c4 ?c5 ?_)
        case c1 => intro i u hi; exact cells_new (wr.drewN d1) [.int .u64 n] [] 22 i u hi
        case c2 => intro u hu; simp at hu; subst hu; rfl
        case c3 => unfold maxLen; omega
        case c4 => omega
        case c5 => have := HB.out.size; simp; omega
        intro v' w3 hown hgrow _
        have hB3 : Hid (Below w.heap.size w w3) := by
          have s1 : Below w.heap.size w ((wr.drewN d1).alloc (Obj.cells #[Value.int IntKind.u64 n] 22)) := up_trans HB.out (up_trans (up_drewN wr d1) (up_alloc _ _))
          exact s1.grown hgrow s1.size (fun k hk => (HW.out.lt k hk).1)
        have hW3 : Hid (w3.ownsRow w.heap.size 22 1 v' (a ++ [n]).length ((a ++ [n]).map (Value.int .u64))) := by
          unfold Hid
          rw [List.length_append, List.map_append]
          exact hown
        have hA3 : Hid (allAux (rest.drop j).length (rest.drop j) (a ++ [n]) = allOf l) := (all_good HO.out.1 hne HR.out j1).trans HA.out
        have hS := HO.out.skip hne j jl
        have hl3 : (a ++ [n]).length + (rest.drop j).length ≤ l.length := by
          rw [List.length_append, List.length_drop, List.length_singleton]; omega
        have hS1 : Hid (cap = j → Octs w (.slice (some ⟨b, off, none⟩) (rest.length - j) 0) (rest.drop j)) := hS.1
        have hS2 : Hid (¬ cap = j → Octs w (.slice (some ⟨b, off + j, none⟩) (rest.length - j) (cap - j)) (rest.drop j)) := hS.2
        clear hS hown hgrow
        by_cases hcj : cap = j
        · go_wp2
          exact ⟨⟨rest.drop j, a ++ [n], hS1.out hcj, hW3, hB3, hA3, hl3⟩, by simp only [lenOf]; omega⟩
        · go_wp2
          exact ⟨⟨rest.drop j, a ++ [n], hS2.out hcj, hW3, hB3, hA3, hl3⟩, by simp only [lenOf]; omega⟩

set_option maxHeartbeats 1000000 in
theorem refAll_any (l : List Int) (v : Value) (w : World) (hv : Octs w v l) (hl : l.length ≤ 1099511627776) :
    Calls Try.prog 24 #[v] w fun e w' => ∃ v', e = .returned (.tuple #[v', .int .i64 (allOf l).2]) ∧ w'.ownsRow w.heap.size 22 1 v' (allOf l).1.length ((allOf l).1.map (Value.int .u64)) ∧ Below w.heap.size w w' := by
  have HV : Hid (Octs w v l) := hv
  clear hv
  obtain ⟨i0, hi, hz0, hz1, hz2⟩ := info_parts Try.info22
  go_enter Try.func24, Try.ntmps24
  go_wp2
  go_loopw [0, 4] (fun vb vl wr => ∃ rest a : List Int, Hid (Octs w vb rest) ∧ Hid (wr.ownsRow w.heap.size 22 1 vl a.length (a.map (Value.int .u64))) ∧ Hid (Below w.heap.size w wr) ∧ Hid (allAux rest.length rest a = allOf l) ∧ a.length + rest.length ≤ l.length) (fun vb _ _ => lenOf vb)
  case atStart => exact ⟨l, [], HV, World.ownsRow_nil _ _ _ _, Below.refl _ _, rfl, by simp⟩
  case round =>
    obtain ⟨rest, a, HO, HW, HB, HA, hlen⟩ := hrel
    rcases HO.out.2 with ⟨rfl, ad, cap, rfl, _⟩ | ⟨hne, b, off, cap, rfl, hc, hm, hcell⟩
    · go_wp2
      go_ret2
      have e : allOf l = (a, 0) := HA.out.symm
      rw [e]
      exact ⟨_, rfl, HW.out, HB.out⟩
    · clear hcell
      unfold maxLen at hm
      have hpos : (0 : Int) < (rest.length : Int) := by have := List.length_pos_iff.2 hne; omega
      have bad : ∀ m : Int, m ≠ 0 → getRet rest = .tuple #[.int .u64 0, .int .i64 0, .int .i64 m] → allOf l = ([], m) := fun m hm h => HA.out.symm.trans (all_bad hne h hm)
      rcases get_says rest HO.out.1 with hr | hr | ⟨n, j, hr, n0, n1, j1, jl, hj, j9⟩
      · have e : Hid (allOf l = ([], 8)) := bad 8 (by decide) hr
        have HR : Hid (getRet rest = .tuple #[.int .u64 0, .int .i64 0, .int .i64 8]) := hr
        clear hr bad
        go_wp2_with fail
        refine (refGet_any rest _ _ (HO.out.up HB.out)).mono ?_
        rintro e w1 ⟨rfl, d1, rfl⟩
        rw [HR.out]
        go_wp2
        go_ret2
        rw [e.out]
        exact ⟨_, rfl, World.ownsRow_nil _ _ _ _, up_trans HB.out (up_drewN _ _)⟩
      · have e : Hid (allOf l = ([], 4)) := bad 4 (by decide) hr
        have HR : Hid (getRet rest = .tuple #[.int .u64 0, .int .i64 0, .int .i64 4]) := hr
        clear hr bad
        go_wp2_with fail
        refine (refGet_any rest _ _ (HO.out.up HB.out)).mono ?_
        rintro e w1 ⟨rfl, d1, rfl⟩
        rw [HR.out]
        go_wp2
        go_ret2
        rw [e.out]
        exact ⟨_, rfl, World.ownsRow_nil _ _ _ _, up_trans HB.out (up_drewN _ _)⟩
      · have HR : Hid (getRet rest = .tuple #[.int .u64 n, .int .i64 j, .int .i64 0]) := hr
        clear hr hj bad
        have hjc : (j : Int) ≤ (cap : Int) := by omega
        go_wp2_with fail
        refine (refGet_any rest _ _ (HO.out.up HB.out)).mono ?_
        rintro e w1 ⟨rfl, d1, rfl⟩
        rw [HR.out]
        go_wp2_with (at_builtin; refine wpList_append_own _ rfl _ _ 37 rfl w.heap.size 22 i0 (.int .u64 0) 1 8 Try.underlying37 hi hz0 hz1 hz2 rfl (by decide) _ _ _ rfl ((ownsRow_drewN HW.out d1).alloc _) ⟨wr.heap.size, 0, none⟩ 1 1 [.int .u64 n] rfl rfl ?c1 ?c2 ?c3 ?c4 ?c5 ?_)
        case c1 => intro i u hi; exact cells_new (wr.drewN d1) [.int .u64 n] [] 22 i u hi
        case c2 => intro u hu; simp at hu; subst hu; rfl
        case c3 => unfold maxLen; omega
        case c4 => omega
        case c5 => have := HB.out.size; simp; omega
        intro v' w3 hown hgrow _
        have hB3 : Hid (Below w.heap.size w w3) := by
          have s1 : Below w.heap.size w ((wr.drewN d1).alloc (Obj.cells #[Value.int IntKind.u64 n] 22)) := up_trans HB.out (up_trans (up_drewN wr d1) (up_alloc _ _))
          exact s1.grown hgrow s1.size (fun k hk => (HW.out.lt k hk).1)
        have hW3 : Hid (w3.ownsRow w.heap.size 22 1 v' (a ++ [n]).length ((a ++ [n]).map (Value.int .u64))) := by
          unfold Hid
          rw [List.length_append, List.map_append]
          exact hown
        have hA3 : Hid (allAux (rest.drop j).length (rest.drop j) (a ++ [n]) = allOf l) := (all_good HO.out.1 hne HR.out j1).trans HA.out
        have hS := HO.out.skip hne j jl
        have hl3 : (a ++ [n]).length + (rest.drop j).length ≤ l.length := by
          rw [List.length_append, List.length_drop, List.length_singleton]; omega
        have hS1 : Hid (cap = j → Octs w (.slice (some ⟨b, off, none⟩) (rest.length - j) 0) (rest.drop j)) := hS.1
        have hS2 : Hid (¬ cap = j → Octs w (.slice (some ⟨b, off + j, none⟩) (rest.length - j) (cap - j)) (rest.drop j)) := hS.2
        clear hS hown hgrow
        by_cases hcj : cap = j
        · go_wp2
          exact ⟨⟨rest.drop j, a ++ [n], hS1.out hcj, hW3, hB3, hA3, hl3⟩, by simp only [lenOf]; omega⟩
        · go_wp2
          exact ⟨⟨rest.drop j, a ++ [n], hS2.out hcj, hW3, hB3, hA3, hl3⟩, by simp only [lenOf]; omega⟩
end Go.Proofs.Ytamamhgmijmkjaa
