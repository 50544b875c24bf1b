/- The document's heights: how many ways each node has. -/
import Derived.Test.YtmiokopnhkojoaaLOrd
import Derived.Test.YtmiokopnhkojoaaLBlk
namespace Go.Proofs.Ytmiokopnhkojoaa
open Go.RowKit
set_option linter.unusedVariables false

def lenV : Value → Int
  | .slice _ n _ => (n : Int)
  | _ => 0
def hrow (p : En × Value) : List Value := [.int .i64 (lenV p.2)]

set_option maxHeartbeats 1000000 in
set_option maxRecDepth 100000 in
theorem heights_any (es : List (En × Value)) (a : Option Addr) (c : Nat) (hd : Value) (w : World) (hv : NodesE w (.slice a es.length c) es) (hs : ∀ p ∈ es, ∃ a n c, p.2 = .slice a n c) (hn : es.length ≤ 4096) :
    Calls Try.prog 34 #[.agg #[.slice a es.length c, hd]] w fun e w' => ∃ a' c', e = .returned (.slice a' es.length c') ∧ Hid (OwnR w' w.heap.size 3 1 (.slice a' es.length c') (es.map hrow)) ∧ Hid (Below w.heap.size w w') := by
  have HV : Hid (NodesE w (.slice a es.length c) es) := hv
  have HS : Hid (∀ p ∈ es, ∃ a n c, p.2 = .slice a n c) := hs
  have B0 : Hid ((w.alloc (.cells #[.slice a es.length c, hd] 25)).heap[w.heap.size]? = some (.cells #[.slice a es.length c, hd] 25)) := blk_new w _
  have U0 : Hid (Below w.heap.size w (w.alloc (.cells #[.slice a es.length c, hd] 25))) := up_alloc w _
  clear hv hs
  go_enter Try.func34, Try.ntmps34
  go_wp2_with fail
  go_loopw [4, 3] (fun q o wr => ∃ (i : Nat) (ao : Option Addr) (co : Nat), i ≤ es.length ∧ q = .int .i64 i ∧ o = .slice ao i co ∧ Hid (OwnR wr w.heap.size 3 1 (.slice ao i co) ((es.take i).map hrow)) ∧ Hid (Below w.heap.size w wr) ∧ Hid (wr.heap[w.heap.size]? = some (.cells #[.slice a es.length c, hd] 25))) (fun q _ _ => es.length - (intOf q).toNat)
  case atStart => exact ⟨0, none, 0, Nat.zero_le _, rfl, rfl, OwnR.nil _ _ _ _, U0, B0⟩
  case round =>
    clear U0 B0
    obtain ⟨i, ao, co, hi, rfl, rfl, HO, HU, HB⟩ := hrel
    have p0 := blk_cell HB.out 0 _ rfl
    by_cases hlt : i < es.length
    · have hlt' : (i : Int) < (es.length : Int) := by omega
      obtain ⟨b, off, cap, x, sx, e, hx, x0, x1, x2, x3, x4⟩ := (HV.out.up HU.out).at i hlt
      simp only [Value.slice.injEq] at e
      obtain ⟨rfl, _, rfl⟩ := e
      obtain ⟨an, nn, cn, hsx⟩ := HS.out _ (List.mem_of_getElem? hx)
      simp only at hsx
      subst hsx
      have HT : Hid ((es.take (i + 1)).map hrow = (es.take i).map hrow ++ [[Value.int .i64 (nn : Int)]]) := by
        unfold Hid
        rw [List.take_add_one, hx, List.map_append]
        rfl
      have HN : Hid (((es.take i).map hrow).length = i) := by unfold Hid; rw [List.length_map, List.length_take]; omega
      have HC1 : Hid (((((es.take i).map hrow).length + 1) + (((es.take i).map hrow).length + 1) / 4 + 192) * 8 ≤ 281474976710656) := by have := HN.out; unfold Hid; omega
      have HC2 : Hid (((es.take i).map hrow).length + 1 ≤ maxLen) := by have := HN.out; unfold Hid maxLen; omega
      have H1 : Hid (∀ u ∈ [Value.int .i64 (nn : Int)], u.oneCell' = true) := by
        intro u hu
        simp only [List.mem_singleton] at hu
        subst hu
        rfl
      have HSZ : Hid (w.heap.size ≤ wr.heap.size) := HU.out.size
      have HK : Hid (∀ w', wr.grownBy w' (Value.slice ao i co).ownBlock → w'.heap[w.heap.size]? = some (.cells #[.slice (some ⟨b, off, none⟩) es.length c, hd] 25)) := fun w' hg => blk_grown HB.out hg (fun q => by
        rcases own_blk_ne HO.out.2 HB.out (by decide) with r | r
        · rw [r] at q; cases q
        · exact r q.symm)
      generalize (es.take i).map hrow = L at *
      clear hx x0 x1 x2 x3 HB
      go_wp2_with (at_builtin; refine wpList_append_rows _ rfl _ _ 23 3 _ 1 8 rfl Try.underlying23 Try.info3 rfl (by decide) w.heap.size (.slice ao i co) L rfl (HO.out.up (up_alloc _ _)) (.slice (some ⟨wr.heap.size, 0, none⟩) 1 1) [[.int .i64 (nn : Int)]] rfl ?r1 ?r2 HC1.out HC2.out ?r3 ?_)
      case r1 => exact Rws.made (sz := 1) wr 3 [[.int .i64 (nn : Int)]] (by simp) (by simp [maxLen])
      case r2 => simpa using H1.out
      case r3 => exact Nat.le_trans HSZ.out (up_alloc _ _).size
      intro v3 w3 O3 G3
      have GA : wr.grownBy w3 (Value.slice ao i co).ownBlock := grown_trans (grown_up (up_alloc _ _) _) G3
      have HB3 : Hid (w3.heap[w.heap.size]? = some (.cells #[.slice (some ⟨b, off, none⟩) es.length c, hd] 25)) := HK.out _ GA
      have HU3 : Hid (Below w.heap.size w w3) := HU.out.grown GA HU.out.size (fun q hq => (HO.out.2.lt q hq).1)
      have O4 : OwnR w3 w.heap.size 3 1 v3 (L ++ [[Value.int .i64 (nn : Int)]]) := O3
      obtain ⟨a3, c3, rfl, _, _⟩ := (Rws.own O4).len
      have e1 : (L ++ [[Value.int .i64 (nn : Int)]]).length = i + 1 := by simp [HN.out]
      rw [e1] at O4 ⊢
      rw [← HT.out] at O4
      have HO3 : Hid (OwnR w3 w.heap.size 3 1 (.slice a3 (i + 1) c3) ((es.take (i + 1)).map hrow)) := O4
      clear O4 O3 G3 GA HK HO HU e1 HT
      go_wp2_with fail
      exact ⟨⟨i + 1, a3, c3, hlt, by go_num, rfl, HO3, HU3, HB3⟩, by simp [intOf]; omega⟩
    · have hlt' : ¬ (i : Int) < (es.length : Int) := by omega
      obtain rfl : i = es.length := by omega
      rw [List.take_length] at HO
      go_wp2_with fail
      go_ret
      exact ⟨ao, co, rfl, HO, HU⟩
end Go.Proofs.Ytmiokopnhkojoaa
