/- Lists of records in memory; the law's comparison of two lists that are alike. -/
import Derived.Test.YtgkgellmeeljbaaFScan
namespace Go.Proofs.Ytgkgellmeeljbaa
open Go.RowKit SumPlain
set_option linter.unusedVariables false

/-- The slice v holds the records xs. -/
def RecsR (w : World) (v : Value) (xs : List Got) : Prop := Rws 2 w v (xs.map grow) ∧ ∀ x ∈ xs, Octs w x.1 x.2.2.1

theorem RecsR.up {w w' : World} {v : Value} {xs : List Got} (h : RecsR w v xs) (hb : Below w.heap.size w w') : RecsR w' v xs := ⟨h.1.up hb, fun x hx => (h.2 x hx).up hb⟩
theorem RecsR.own {w : World} {base base' : Nat} {v : Value} {xs : List Got} (h : OwnR w base 25 2 v (xs.map grow)) (hx : ∀ x ∈ xs, NewB w base' x.1 x.2.2.1) : RecsR w v xs := ⟨Rws.own h, fun x h' => (hx x h').1⟩
theorem RecsR.own24 {w : World} {base base' : Nat} {v : Value} {xs : List Got} (h : OwnR w base 24 2 v (xs.map grow)) (hx : ∀ x ∈ xs, NewB w base' x.1 x.2.2.1) : RecsR w v xs := ⟨Rws.own h, fun x h' => (hx x h').1⟩
theorem RecsR.nil (w : World) : RecsR w (.slice none 0 0) [] := ⟨Rws.nil 2 w, fun x hx => by cases hx⟩
theorem RecsR.len {w : World} {v : Value} {xs : List Got} (h : RecsR w v xs) : ∃ a cap, v = .slice a xs.length cap ∧ xs.length ≤ cap ∧ cap ≤ maxLen := by
  obtain ⟨a, cap, e, h1, h2⟩ := h.1.len
  rw [List.length_map] at e h1
  exact ⟨a, cap, e, h1, h2⟩
theorem RecsR.at {w : World} {v : Value} {xs : List Got} (h : RecsR w v xs) (k : Nat) (hk : k < xs.length) :
    ∃ b off cap x a c, v = .slice (some ⟨b, off, none⟩) xs.length cap ∧ xs[k]? = some x ∧ x.1 = .slice a x.2.2.1.length c ∧ w.cell? ⟨b, off + k * 2, none⟩ = some (.int .i64 x.2.1) ∧ w.cell? ⟨b, off + k * 2 + 1, none⟩ = some (.slice a x.2.2.1.length c) ∧ Octs w (.slice a x.2.2.1.length c) x.2.2.1 := by
  obtain ⟨b, off, cap, e, _, _, hc⟩ := h.1.at k (by rw [List.length_map]; exact hk)
  rw [List.length_map] at e
  have hx : xs[k]? = some xs[k] := List.getElem?_eq_getElem hk
  have ho := h.2 xs[k] (List.getElem_mem hk)
  obtain ⟨a, c, ea, _, _⟩ := ho.len
  have hg : (xs.map grow).getD k [] = grow xs[k] := by simp [List.getD, hk]
  rw [hg] at hc
  refine ⟨b, off, cap, xs[k], a, c, e, hx, ea, ?_, ?_, by rw [← ea]; exact ho⟩
  · have := hc 0 (.int .i64 xs[k].2.1) rfl
    simpa using this
  · have := hc 1 xs[k].1 rfl
    rw [← ea]
    exact this

set_option maxHeartbeats 1000000 in
/-- Two lists of records that are alike. -/
theorem sameAll_self (xs ys : List Got) (v u : Value) (w : World) (hv : RecsR w v xs) (hu : RecsR w u ys) (he : xs.map (fun x => (x.2.1, x.2.2.1)) = ys.map (fun x => (x.2.1, x.2.2.1))) :
    Calls Try.prog 19 #[v, u] w fun e w' => e = .returned (.bool true) ∧ Below w.heap.size w w' := by
  have HV : Hid (RecsR w v xs ∧ RecsR w u ys) := ⟨hv, hu⟩
  have HE : Hid (xs.map (fun x => (x.2.1, x.2.2.1)) = ys.map (fun x => (x.2.1, x.2.2.1))) := he
  have hlen : ys.length = xs.length := by
    have := congrArg List.length he
    simpa using this.symm
  obtain ⟨a1, c1, e1, _, m1⟩ := hv.len
  obtain ⟨a2, c2, e2, _, m2⟩ := hu.len
  rw [hlen] at e2
  have HL : Hid (ys.length = xs.length) := hlen
  subst e1
  subst e2
  have hl63 : xs.length ≤ 9223372036854775807 := by unfold maxLen at m1; omega
  clear hv hu he hlen m2
  go_enter Try.func19, Try.ntmps19
  go_wp2_with fail
  go_loopw [5] (fun i wr => ∃ k : Nat, k ≤ xs.length ∧ i = .int .i64 k ∧ Hid (Below w.heap.size w wr)) (fun i _ => xs.length - (intOf i).toNat)
  case atStart => exact ⟨0, Nat.zero_le _, rfl, Below.refl _ _⟩
  case round =>
    obtain ⟨k, hk, rfl, up⟩ := hrel
    by_cases hlt : k < xs.length
    · have hlt' : (k : Int) < (xs.length : Int) := by omega
      obtain ⟨b, off, cap, x, ax, cx, e, hx, hx1, z0, z1, ox⟩ := (HV.out.1.up up.out).at k hlt
      obtain ⟨b', off', cap', y, ay, cy, e', hy, hy1, y0, y1, oy⟩ := (HV.out.2.up up.out).at k (by rw [HL.out]; exact hlt)
      have hxy : x.2.1 = y.2.1 ∧ x.2.2.1 = y.2.2.1 := by
        have h := congrArg (·[k]?) HE.out
        simp only [List.getElem?_map, hx, hy, Option.map_some] at h
        simpa using h
      simp at e e'
      obtain ⟨rfl, rfl⟩ := e
      obtain ⟨rfl, hh, rfl⟩ := e'
      clear hh
      obtain ⟨xv, xk, xd, xn⟩ := x
      obtain ⟨yv, yk, yd, yn⟩ := y
      simp only at hxy z0 z1 y0 y1 ox oy hx1 hy1
      obtain ⟨rfl, rfl⟩ := hxy
      have HC : Hid (Calls Try.prog 18 #[.agg #[.int .i64 xk, .slice ax xd.length cx], .agg #[.int .i64 xk, .slice ay xd.length cy]] wr.drew fun e w' => e = .returned (.bool true) ∧ w'.cell? ⟨b, off + k * 2, none⟩ = some (.int .i64 xk) ∧ w'.cell? ⟨b, off + k * 2 + 1, none⟩ = some (.slice ax xd.length cx) ∧ w'.cell? ⟨b', off' + k * 2, none⟩ = some (.int .i64 xk) ∧ w'.cell? ⟨b', off' + k * 2 + 1, none⟩ = some (.slice ay xd.length cy) ∧ Hid (Below w.heap.size w w')) := by
        refine (same2_any xk xk xd xd _ _ _ (ox.up (up_dr (Below.refl _ _))) (oy.up (up_dr (Below.refl _ _)))).mono ?_
        rintro e w' ⟨rfl, hb⟩
        have hb2 : Below wr.heap.size wr w' := up_trans (up_dr (Below.refl _ _)) hb
        have lt : ∀ {bb o : Nat} {q : Value}, wr.cell? ⟨bb, o, none⟩ = some q → w'.cell? ⟨bb, o, none⟩ = some q := by
          intro bb o q hq
          rw [hb2.cell (p := ⟨bb, o, none⟩) (by
            rcases Nat.lt_or_ge bb wr.heap.size with h | h
            · exact h
            · simp [World.cell?, Array.getElem?_eq_none h] at hq)]
          exact hq
        exact ⟨by simp, lt z0, lt z1, lt y0, lt y1, up_trans up.out hb2⟩
      clear hx hy hx1 hy1 ox oy
      go_wp2_with fail
      go_region_held3 (fun w' => w'.cell? ⟨b, off + k * 2, none⟩ = some (.int .i64 xk) ∧ w'.cell? ⟨b, off + k * 2 + 1, none⟩ = some (.slice ax xd.length cx) ∧ w'.cell? ⟨b', off' + k * 2, none⟩ = some (.int .i64 xk) ∧ w'.cell? ⟨b', off' + k * 2 + 1, none⟩ = some (.slice ay xd.length cy)) (first | with_reducible exact ⟨q0, q1, q2, q3⟩ | with_reducible exact ⟨z0, z1, y0, y1⟩ | (simp [go_sem, z0, z1, y0, y1]; done)) (first
        | (go_at_call 18; with_reducible refine HC.out.mono ?_; rintro e w' ⟨rfl, q0, q1, q2, q3, hb⟩))
      all_goals
        go_wp2_with fail
        exact ⟨⟨k + 1, by omega, by go_num, hb⟩, by simp [intOf]; omega⟩
    · have hlt' : ¬ (k : Int) < (xs.length : Int) := by omega
      go_wp2_with fail
      go_ret
      exact ⟨rfl, up.out⟩
end Go.Proofs.Ytgkgellmeeljbaa
