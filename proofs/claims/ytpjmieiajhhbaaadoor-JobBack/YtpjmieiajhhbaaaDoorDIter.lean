/- The function that hands out a word's items: it calls yield with each of them, in order, until it is told to stop. -/
import Derived.RangeFuncNested
import Derived.RangeFuncBound
import Derived.RangeFuncCalls
import Derived.RangeFuncLeaves
import Derived.Shelf.Abstract
import Derived.Shelf.RegionOpen
import Derived.OwnWalkIn
import Derived.TacticsInMore
import Derived.LoopNIn
import Derived.LoopIn
import Derived.Test.YtpjmieiajhhbaaaDoorDMeant
namespace Go.Proofs.YtpjmieiajhhbaaaDoor
open Go.RowKit Go.Shelf
set_option linter.unusedVariables false
set_option linter.unusedSimpArgs false
attribute [local go_sem] Oper.semAt_some

theorem items_any (l : List Int) (w : World) : Calls Tryd.prog 88 #[.string (strOfNums l)] w fun e w' => e = .returned (.func (.func 100) #[] #[.pointer (some ⟨w.heap.size, 0, none⟩)]) ∧ w' = w.alloc (.cells #[.string (strOfNums l)] 9) := by
  go_enter Tryd.func88, Tryd.ntmps88
  go_wp2
  go_ret
  exact ⟨rfl, rfl⟩
/-- The k-th of some texts. -/
def nthL (L : List (List Int)) (k : Nat) : List Int := L.getD k []
def flagN (v : Value) : Nat := match v with
  | .bool true => 1
  | _ => 0
/-- What a round of the items finds: k of them are handed out. -/
def ItAt (L : List (List Int)) (k : Nat) (l : List Int) (more : Bool) : Prop := (more = true ∧ splitN l 44 = L.drop k ∧ l.length ≤ 1000000 ∧ ∀ x ∈ l, 0 ≤ x ∧ x ≤ 255) ∨ (more = false ∧ l = [] ∧ k = L.length)
theorem ItAt.step {L : List (List Int)} {k : Nat} {l : List Int} (h : ItAt L k l true) : k < L.length ∧ (cutQ l 44).1 = nthL L k ∧ ItAt L (k + 1) (cutQ l 44).2.1 (cutQ l 44).2.2 ∧ (cutQ l 44).2.1.length + (if (cutQ l 44).2.2 then 1 else 0) < l.length + 1 := by
  rcases h with ⟨-, h, hm, hx⟩ | ⟨h, -⟩
  · have ne := splitN_ne l 44
    rw [splitN_cut l 44] at h
    have hk : k < L.length := by
      by_cases c : k < L.length
      · exact c
      · rw [← splitN_cut l 44, List.drop_of_length_le (by omega)] at h
        exact absurd h ne
    have ed : L.drop k = nthL L k :: L.drop (k + 1) := by
      unfold nthL
      rw [List.drop_eq_getElem_cons hk]
      simp [List.getD, hk]
    rw [ed] at h
    unfold cutQ
    by_cases c : cutN l 44 < l.length
    · rw [if_pos c] at h ⊢
      injection h with h1 h2
      refine ⟨hk, h1, .inl ⟨rfl, h2, by rw [List.length_drop]; omega, fun x hx' => hx x (List.mem_of_mem_drop hx')⟩, ?_⟩
      show (l.drop (cutN l 44 + 1)).length + 1 < _
      rw [List.length_drop]
      omega
    · rw [if_neg c] at h ⊢
      injection h with h1 h2
      refine ⟨hk, h1, .inr ⟨rfl, rfl, ?_⟩, ?_⟩
      · have := congrArg List.length h2
        rw [List.length_drop, List.length_nil] at this
        omega
      · show 0 + 0 < _
        omega
  · cases h
set_option maxHeartbeats 2000000 in
theorem iter_in (m lp Bf : Nat) (l : List Int) (hx : ∀ x ∈ l, 0 ≤ x ∧ x ≤ 255) (hm : l.length ≤ 1000000) (J : Nat → World → Prop) (D : World → Prop) (W : World)
    (hY : ∀ (i : Nat) (W0 : World), i < (splitN l 44).length → J i W0 → YieldAt Fence.wide (m - 1) Tryd.prog lp #[.string (strOfNums (nthL (splitN l 44) i))] W0 fun e W' => (e = .returned (.bool true) ∧ J (i + 1) W') ∨ (e = .returned (.bool false) ∧ D W'))
    (hU : ∀ i W W', J i W → Below W.heap.size W W' → J i W')
    (hK : ∀ i W', J i W' → W'.cell? ⟨Bf, 0, none⟩ = some (.string (strOfNums l)))
    (hJ : J 0 W) :
    CallsIn Fence.wide m Tryd.prog 100 #[.func (.yield lp) #[] #[], .pointer (some ⟨Bf, 0, none⟩)] W fun e W' => (∃ v, e = .returned v) ∧ (J (splitN l 44).length W' ∨ D W') := by
  refine callsIn_of_wp Tryd.func100 rfl trivial ?_ rfl
  simp only [Tryd.ntmps100, List.size_toArray, List.length_cons, List.length_nil, Nat.reduceAdd, Nat.reduceSub, Array.replicate_succ, Array.replicate_zero, List.push_toArray, List.append_toArray, List.nil_append, List.cons_append]
  have k0 := hK 0 W hJ
  have CC : Hid (∀ (l' : List Int), l'.length ≤ 1000000 → (∀ x ∈ l', 0 ≤ x ∧ x ≤ 255) → ∀ w', Calls Tryd.prog 101 #[.string (strOfNums l'), .string ⟨#[44]⟩] w' fun e w'' => e = .returned (.tuple #[.string (strOfNums (cutQ l' 44).1), .string (strOfNums (cutQ l' 44).2.1), .bool (cutQ l' 44).2.2]) ∧ Below w'.heap.size w' w'') := fun l' h1 h2 w' => cutS_any l' h2 (by omega) 44 w'
  have I0 : Hid (ItAt (splitN l 44) 0 l true) := .inl ⟨rfl, rfl, hm, hx⟩
  generalize splitN l 44 = L at *
  clear hx hm
  gi_wp2
  gi_loopw [3, 4] (fun p q wr => ∃ (i : Nat) (l' : List Int) (more : Bool), p = .string (strOfNums l') ∧ q = .bool more ∧ Hid (ItAt L i l' more) ∧ Hid (J i wr)) (fun p q _ => strLen p + flagN q)
  case atStart => exact ⟨0, l, true, rfl, rfl, I0, hJ⟩
  case round =>
    obtain ⟨i, l', more, rfl, rfl, HI, hj⟩ := hrel
    clear k0 I0
    cases more
    · have e : i = L.length := by
        rcases HI.out with ⟨h, -⟩ | ⟨-, -, h⟩
        · cases h
        · exact h
      subst e
      clear hY hK
      gi_wp2
      go_end0
      exact ⟨⟨_, rfl⟩, .inl hj.out⟩
    · obtain ⟨hk, h1, h2, h3⟩ := HI.out.step
      have hlen : l'.length ≤ 1000000 ∧ ∀ x ∈ l', 0 ≤ x ∧ x ≤ 255 := by
        rcases HI.out with ⟨-, -, a, b⟩ | ⟨h, -⟩
        · exact ⟨a, b⟩
        · cases h
      have C1 := hid (CC.out l' hlen.1 hlen.2)
      have Y : Hid (∀ W0, J i W0 → YieldAt Fence.wide (m - 1) Tryd.prog lp #[.string (strOfNums (cutQ l' 44).1)] W0 fun e W' => (e = .returned (.bool true) ∧ J (i + 1) W') ∨ (e = .returned (.bool false) ∧ D W')) := by
        rw [h1]
        exact fun W0 h => hY i W0 hk h
      have HU : Hid (∀ W', Below wr.heap.size wr W' → J i W') := fun W' hb => hU i wr W' hj.out hb
      have H2 := hid h2
      have H3 := hid h3
      have SL : Hid (strLen (.string (strOfNums l')) = l'.length) := strOfNums_size l'
      have SL2 : Hid (strLen (.string (strOfNums (cutQ l' 44).2.1)) = (cutQ l' 44).2.1.length) := strOfNums_size _
      clear hY hK hU hlen h1 h2 h3 hk CC HI
      generalize (cutQ l' 44).1 = a at *
      generalize (cutQ l' 44).2.1 = b at *
      generalize (cutQ l' 44).2.2 = c at *
      gi_wp2
      refine ⟨trivial, fun h => (by cases h), ?_⟩
      refine (callsIn_wide.2 (C1.out _)).mono ?_
      rintro e w2 ⟨rfl, hb2⟩
      obtain ⟨fn, tmps, asg, bod, hy, hR⟩ := Y.out _ (HU.out w2 hb2)
      clear Y HU hb2
      gi_wp2
      refine ⟨fun h => (by cases h), hR.mono ?_⟩
      rintro e W3 (⟨rfl, hJ3⟩ | ⟨rfl, hD3⟩)
      · have HJ3 : Hid (J (i + 1) W3) := hJ3
        clear hJ3
        gi_wp2
        refine ⟨⟨i + 1, b, c, rfl, rfl, H2, HJ3⟩, ?_⟩
        rw [SL.out, SL2.out]
        have := H3.out
        cases c
        · simpa [flagN] using this
        · simpa [flagN] using this
      · have HD3 : Hid (D W3) := hD3
        clear hD3
        gi_wp2
        refine bodyPost_ret (results_none rfl _ _ _) rfl ?_
        exact ⟨⟨_, rfl⟩, .inr HD3.out⟩
end Go.Proofs.YtpjmieiajhhbaaaDoor
