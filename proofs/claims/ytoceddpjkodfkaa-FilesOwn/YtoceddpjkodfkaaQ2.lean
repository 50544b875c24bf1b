/- Files that no name stands for are struck from the list. -/
import Derived.Test.YtoceddpjkodfkaaQ1
namespace Go.Proofs.Ytoceddpjkodfkaa
open Go.RowKit
set_option linter.unusedVariables false

theorem look_set {w : World} {b : Nat} {ids : List Int} (h : SetW w b ids) {x : Int} (hx : In64 x) : (Instr.lookup 109 (.map (some b)) (.int .i64 x) true).run Try.prog w = .ok (.tuple #[.agg #[], .bool (ids.contains x)]) w := by
  obtain ⟨D, h1, h2, h3, h4⟩ := h
  have hz : (zeroValue 112).run Try.prog w = .ok (.agg #[]) w := by
    have : ∀ w, (zeroValue 112).run Try.prog w = .ok (.agg #[]) w := Try.zeroValue112
    exact this w
  obtain ⟨v, ps, hrun, hv⟩ := h1.look_ok (Maps.int_keyed Try.underlying3) Try.underlying109 hz unitElem_mk (Maps.keyOf_int_mk Try.underlying3 (wf_i64_of hx))
  obtain ⟨rfl, _⟩ := unitElem_inv hv
  rw [h4 x] at hrun
  exact hrun

theorem gone_any (id : Int) (hid : In64 id) (d y : Value) (ids : List Int) (mb NB : Nat) (w : World) (hs : SetW w mb ids) (hc : w.cell? ⟨NB, 0, none⟩ = some (.map (some mb))) :
    Calls Try.prog 66 #[.agg #[.int .i64 id, d, y], .pointer (some ⟨NB, 0, none⟩)] w fun e w' => e = .returned (.bool (!ids.contains id)) ∧ Below w.heap.size w w' := by
  have hl := look_set (hs.up (up_al (Below.refl _ _) (.cells #[.int .i64 id, d, y] 71))) hid
  have hn : NB < w.heap.size := World.block_lt_of_cell? w _ hc
  have hc2 : (w.alloc (.cells #[.int .i64 id, d, y] 71)).cell? ⟨NB, 0, none⟩ = some (.map (some mb)) := ((up_al (Below.refl _ _) _).cell (p := ⟨NB, 0, none⟩) hn).trans hc
  clear hs
  generalize ids.contains id = r at *
  go_enter Try.func66, Try.ntmps66
  go_wp2
  go_ret
  exact ⟨rfl, up_al (up_al (Below.refl _ _) _) _⟩

/-- Rows of files as they are read. -/
def RowsF (w : World) (v : Value) (m : List FRow) : Prop := Rws 3 w v (m.map frow) ∧ ∀ y ∈ m, (∃ a n c, y.1 = .slice a n c) ∧ In64 y.2.1

theorem RowsF.up {w w' : World} {v : Value} {m : List FRow} (h : RowsF w v m) (hb : Below w.heap.size w w') : RowsF w' v m := ⟨h.1.up hb, h.2⟩

theorem RowsF.at {w : World} {v : Value} {m : List FRow} (h : RowsF w v m) (k : Nat) (hk : k < m.length) :
    ∃ b off cap a n c, v = .slice (some ⟨b, off, none⟩) m.length cap ∧ m.length ≤ cap ∧ cap ≤ maxLen ∧ (m.getD k (undef, 0, [], 0)).1 = .slice a n c ∧ w.cell? ⟨b, off + k * 3, none⟩ = some (.int .i64 (m.getD k (undef, 0, [], 0)).2.1) ∧ w.cell? ⟨b, off + k * 3 + 1, none⟩ = some (.slice a n c) ∧
      w.cell? ⟨b, off + k * 3 + 2, none⟩ = some (.int .i64 (m.getD k (undef, 0, [], 0)).2.2.2) ∧ In64 (m.getD k (undef, 0, [], 0)).2.1 := by
  obtain ⟨b, off, cap, e, h1, h2, hc⟩ := h.1.at k (by rw [List.length_map]; exact hk)
  rw [List.length_map] at e h1
  have hr : (m.map frow).getD k [] = frow (m.getD k (undef, 0, [], 0)) := by simp [List.getD, hk]
  rw [hr] at hc
  have hm : m.getD k (undef, 0, [], 0) ∈ m := by simp [List.getD, hk]
  obtain ⟨⟨a, n, c, e1⟩, hi⟩ := h.2 _ hm
  have c1 := hc 1 _ rfl
  rw [e1] at c1
  exact ⟨b, off, cap, a, n, c, e, h1, h2, e1, hc 0 _ rfl, c1, hc 2 _ rfl, hi⟩

theorem RowsF.len {w : World} {v : Value} {m : List FRow} (h : RowsF w v m) : ∃ a cap, v = .slice a m.length cap ∧ m.length ≤ cap ∧ cap ≤ maxLen := by
  obtain ⟨a, cap, e, h1, h2⟩ := h.1.len
  rw [List.length_map] at e h1
  exact ⟨a, cap, e, h1, h2⟩

def goneP (ids : List Int) (y : FRow) : Bool := !ids.contains y.2.1

set_option maxHeartbeats 1000000 in
theorem indexF_any (m : List FRow) (v : Value) (ids : List Int) (mb NB : Nat) (w : World) (hv : RowsF w v m) (hs : SetW w mb ids) (hc : w.cell? ⟨NB, 0, none⟩ = some (.map (some mb))) :
    Calls Try.prog 73 #[v, .func (.func 66) #[] #[.pointer (some ⟨NB, 0, none⟩)]] w fun e w' => e = .returned (.int .i64 (placeOf (goneP ids) m)) ∧ Below w.heap.size w w' := by
  have HV : Hid (RowsF w v m ∧ SetW w mb ids ∧ w.cell? ⟨NB, 0, none⟩ = some (.map (some mb))) := ⟨hv, hs, hc⟩
  obtain ⟨a, cap, rfl, hcap, hmax⟩ := hv.len
  clear hv hs hc
  unfold maxLen at hmax
  go_enter Try.func73, Try.ntmps73
  go_wp2
  go_loopw [8] (fun i wr => ∃ k : Nat, k ≤ m.length ∧ i = .int .i64 k ∧ Hid (∀ y ∈ m.take k, goneP ids y = false) ∧ Hid (Below w.heap.size w wr)) (fun i _ => m.length - (intOf i).toNat)
  case atStart => exact ⟨0, Nat.zero_le _, rfl, (fun x hx => by simp at hx), Below.refl _ _⟩
  case round =>
    obtain ⟨k, hk, rfl, HK, up⟩ := hrel
    by_cases hlt : k < m.length
    · have hlt' : (k : Int) < (m.length : Int) := by omega
      obtain ⟨b, off, cap', au, nu, cu, e, _, _, e1, c0, c1, c2, hi⟩ := (HV.out.1.up up.out).at k hlt
      simp at e
      obtain ⟨rfl, rfl⟩ := e
      have HT : Hid (m.take (k + 1) = m.take k ++ [m.getD k (undef, 0, [], 0)]) := take_snoc m k _ hlt
      have hget : Hid (m[k]? = some (m.getD k (undef, 0, [], 0))) := by simp [Hid, List.getD, hlt]
      generalize m.getD k (undef, 0, [], 0) = y at *
      obtain ⟨yv, yi, yd, ys⟩ := y
      simp only at c0 c2 hi e1
      subst e1
      have hcl := fun W (hW : Below wr.heap.size wr W) => gone_any yi hi (.slice au nu cu) (.int .i64 ys) ids mb NB W (HV.out.2.1.up (up_trans up.out hW)) (((up_trans up.out hW).cell (World.block_lt_of_cell? w _ HV.out.2.2)).trans HV.out.2.2)
      have HC : Hid (∀ W, Below wr.heap.size wr W → Calls Try.prog 66 #[.agg #[.int .i64 yi, .slice au nu cu, .int .i64 ys], .pointer (some ⟨NB, 0, none⟩)] W fun e w' => e = .returned (.bool (!ids.contains yi)) ∧ Below W.heap.size W w') := hcl
      clear hcl
      cases d : goneP ids ((Value.slice au nu cu, yi, yd, ys) : FRow) with
      | true =>
        have HM : Hid (placeOf (goneP ids) m = (k : Int)) := placeOf_at _ m k _ hget.out d HK.out
        have d' : (!ids.contains yi) = true := d
        go_wp2_with fail
        refine (HC.out _ (Below.refl _ _)).mono ?_
        rintro e w1 ⟨rfl, hb1⟩
        have up1 : Hid (Below w.heap.size w w1) := up_trans up.out hb1
        rw [d']
        clear hb1 d d'
        go_wp2_with fail
        go_ret
        rw [HM.out]
        exact ⟨rfl, up1.out⟩
      | false =>
        have d' : (!ids.contains yi) = false := d
        have HK2 : Hid (∀ y ∈ m.take (k + 1), goneP ids y = false) := by
          rw [HT.out]
          intro p hp
          rcases List.mem_append.1 hp with h | h
          · exact HK.out p h
          · simp at h
            subst h
            exact d
        go_wp2_with fail
        refine (HC.out _ (Below.refl _ _)).mono ?_
        rintro e w1 ⟨rfl, hb1⟩
        have up1 : Hid (Below w.heap.size w w1) := up_trans up.out hb1
        rw [d']
        clear hb1 d d'
        go_wp2_with fail
        exact ⟨⟨k + 1, by omega, by go_num, HK2, up1⟩, by simp [intOf]; omega⟩
    · have hlt' : ¬ (k : Int) < (m.length : Int) := by omega
      obtain rfl : k = m.length := by omega
      have HM : Hid (placeOf (goneP ids) m = -1) := by
        have h := HK.out
        rw [List.take_length] at h
        exact placeOf_none _ m h
      go_wp2_with fail
      go_ret
      rw [HM.out]
      exact ⟨rfl, up.out⟩
end Go.Proofs.Ytoceddpjkodfkaa
