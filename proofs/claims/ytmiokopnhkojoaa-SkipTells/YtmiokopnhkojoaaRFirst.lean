/- The document's First. -/
import Derived.Test.YtmiokopnhkojoaaPBeh
import Derived.Test.YtmiokopnhkojoaaMGet
import Derived.Test.YtmiokopnhkojoaaLEnts
namespace Go.Proofs.Ytmiokopnhkojoaa
open Go.RowKit
set_option linter.unusedVariables false
set_option linter.unusedSimpArgs false

/-- What First answers. -/
def firstV (l : List En) (key : ByteArray) (seq : Int) : En × Bool := match firstF l key seq with | none => (default, false) | some y => (y, true)
theorem firstF_drop {l : List En} {key : ByteArray} {seq : Int} {i : Nat} {y : En} (h : l[i]? = some y) : firstF (l.drop i) key seq = if ((y.key.toList == key.toList) && decide (y.seq ≤ seq)) = true then some y else firstF (l.drop (i + 1)) key seq := by
  have hi := (List.getElem?_eq_some_iff.1 h).1
  rw [List.drop_eq_getElem_cons hi, (List.getElem?_eq_some_iff.1 h).2]
  unfold firstF
  rw [List.find?_cons]
  cases q : ((y.key.toList == key.toList) && decide (y.seq ≤ seq)) <;> simp
set_option maxHeartbeats 1000000 in
set_option maxRecDepth 100000 in
theorem first_any (l : List En) (a : Option Addr) (c : Nat) (key : ByteArray) (seq : Int) (w : World) (hl : EntsR w (.slice a l.length c) l) :
    Calls Try.prog 35 #[.slice a l.length c, .string key, .int .i64 seq] w fun e w' => e = .returned (.tuple #[enV (firstV l key seq).1, .bool (firstV l key seq).2]) ∧ Hid (Below w.heap.size w w') := by
  have HL : Hid (EntsR w (.slice a l.length c) l) := hl
  have h63 : (l.length : Int) ≤ 9223372036854775807 := by obtain ⟨_, _, e, h4, h5⟩ := hl.len; unfold maxLen at h5; omega
  have HEND : Hid (∀ y b, firstV l key seq = (y, b) → Ending.returned (.tuple #[.agg #[.string y.key, .int .i64 y.seq, .int .i64 y.kind, .string y.val], .bool b]) = .returned (.tuple #[enV (firstV l key seq).1, .bool (firstV l key seq).2])) := by
    intro y b h
    rw [h]
    rfl
  have B0 : Hid ((w.alloc (.cells #[.string ⟨#[]⟩, .int .i64 0, .int .i64 0, .string ⟨#[]⟩] 27)).heap[w.heap.size]? = some (.cells #[.string ⟨#[]⟩, .int .i64 0, .int .i64 0, .string ⟨#[]⟩] 27)) := blk_new _ _
  have U0 : Hid (Below w.heap.size w (w.alloc (.cells #[.string ⟨#[]⟩, .int .i64 0, .int .i64 0, .string ⟨#[]⟩] 27))) := up_alloc _ _
  clear hl
  obtain ⟨wb, hwb⟩ : ∃ wb, wb = w.alloc (.cells #[.string ⟨#[]⟩, .int .i64 0, .int .i64 0, .string ⟨#[]⟩] 27) := ⟨_, rfl⟩
  have HWB : Hid (w.alloc (.cells #[.string ⟨#[]⟩, .int .i64 0, .int .i64 0, .string ⟨#[]⟩] 27) = wb) := hwb.symm
  rw [← hwb] at B0 U0
  clear hwb
  go_enter Try.func35, Try.ntmps35
  go_wp2_with fail
  rw [HWB.out]
  go_loopw [8] (fun q wr => ∃ i : Nat, i ≤ l.length ∧ q = .int .i64 (i : Int) ∧ Hid (firstF (l.drop i) key seq = firstF l key seq) ∧ wr = wb) (fun q _ => l.length - (intOf q).toNat)
  case atStart => exact ⟨0, by omega, rfl, by simp [Hid], rfl⟩
  case round =>
    obtain ⟨i, hi, rfl, HF, rfl⟩ := hrel
    have d0 : wr.cell? ⟨w.heap.size, 0, none⟩ = some (.string ⟨#[]⟩) := blk_cell B0.out 0 _ rfl
    have d1 : wr.cell? ⟨w.heap.size, 1, none⟩ = some (.int .i64 0) := blk_cell B0.out 1 _ rfl
    have d2 : wr.cell? ⟨w.heap.size, 2, none⟩ = some (.int .i64 0) := blk_cell B0.out 2 _ rfl
    have d3 : wr.cell? ⟨w.heap.size, 3, none⟩ = some (.string ⟨#[]⟩) := blk_cell B0.out 3 _ rfl
    have f0 := fun k => blk_frozen B0.out k
    by_cases hlt : i < l.length
    · have hlt' : (i : Int) < (l.length : Int) := by omega
      obtain ⟨b, off, cap, y, e, hy, y0, y1, y2, y3⟩ := (HL.out.up U0.out).at i hlt
      simp only [Value.slice.injEq] at e
      obtain ⟨rfl, _, rfl⟩ := e
      have HD := firstF_drop (key := key) (seq := seq) hy
      have HDH : Hid (firstF (l.drop i) key seq = if ((y.key.toList == key.toList) && decide (y.seq ≤ seq)) = true then some y else firstF (l.drop (i + 1)) key seq) := HD
      clear HD hy
      by_cases q1 : y.key.toList = key.toList
      · have q1' : (y.key.toList == key.toList) = true := by simp [q1]
        by_cases q2 : y.seq ≤ seq
        · have HE : Hid (firstV l key seq = (y, true)) := by
            unfold Hid firstV
            rw [← HF.out, HDH.out, q1']
            simp [q2]
          go_wp2_with fail
          refine bodyPost_ret (results_ent (q := 6) (r := 7) rfl _ _ rfl (set4_blk B0.out (.string y.key) (.int .i64 y.seq) (.int .i64 y.kind) (.string y.val))) rfl ?_
          exact ⟨HEND.out y true HE.out, U0.out.grown (set4_grown _ w.heap.size _ _ _ _) U0.out.size (fun k hk => by injection hk with hk; omega)⟩
        · have HN : Hid (firstF (l.drop (i + 1)) key seq = firstF l key seq) := by
            unfold Hid
            rw [← HF.out, HDH.out, q1']
            simp [q2]
          go_wp2_with fail
          exact ⟨⟨i + 1, by omega, by go_num, HN, trivial⟩, by simp [intOf]; omega⟩
      · have q1' : (y.key.toList == key.toList) = false := by simp [q1]
        have HN : Hid (firstF (l.drop (i + 1)) key seq = firstF l key seq) := by
          unfold Hid
          rw [← HF.out, HDH.out, q1']
          simp
        go_wp2_with fail
        exact ⟨⟨i + 1, by omega, by go_num, HN, trivial⟩, by simp [intOf]; omega⟩
    · obtain rfl : i = l.length := by omega
      have HE : Hid (firstV l key seq = (default, false)) := by
        unfold Hid firstV
        rw [← HF.out, List.drop_length]
        rfl
      go_wp2_with fail
      refine bodyPost_ret (results_ent (q := 6) (r := 7) rfl _ _ rfl (set4_blk B0.out (.string ⟨#[]⟩) (.int .i64 0) (.int .i64 0) (.string ⟨#[]⟩))) rfl ?_
      exact ⟨HEND.out default false HE.out, U0.out.grown (set4_grown _ w.heap.size _ _ _ _) U0.out.size (fun k hk => by injection hk with hk; omega)⟩
end Go.Proofs.Ytmiokopnhkojoaa
