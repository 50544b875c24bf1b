/- The law's own makers of the program's states: names, octets. -/
import Derived.Test.YtoceddpjkodfkaaR6
namespace Go.Proofs.Ytoceddpjkodfkaa
open Go.RowKit
set_option linter.unusedVariables false
set_option linter.unusedSimpArgs false

set_option maxHeartbeats 400000 in
theorem copyB_any (l : List Int) (v : Value) (w : World) (hv : Octs w v l) (hl : l.length ≤ 140737488355328) :
    Calls Try.prog 10 #[v] w fun e w' => ∃ v', e = .returned v' ∧ OwnB w' w.heap.size v' l ∧ Below w.heap.size w w' := by
  have HV : Hid (Octs w v l) := hv
  clear hv
  go_enter Try.func10, Try.ntmps10
  go_wp2_with (at_builtin; refine wpList_append_octs _ rfl _ _ rfl w.heap.size _ [] rfl (World.ownsRow_nil _ _ _ _) _ l rfl HV.out ?c1 (Nat.le_refl _) ?_)
  case c1 => simpa using hl
  intro v' w' hown hg
  go_wp2
  go_ret
  refine ⟨_, rfl, hown, ?_⟩
  exact (Below.refl _ _).grown hg (Nat.le_refl _) (by simp [Value.ownBlock])

set_option maxHeartbeats 2000000 in
set_option maxRecDepth 2000 in
theorem names_any (l : List (List Int × Int)) (v : Value) (w : World) (hv : NamesW w v l) (hl : l.length * 24 ≤ 140737488351232) :
    Calls Try.prog 31 #[v] w fun e w' => ∃ v', e = .returned v' ∧ OwnN w' w.heap.size 73 v' l ∧ Below w.heap.size w w' := by
  have HN : Hid (NamesW w v l) := hv
  obtain ⟨an, cn, en, _, _⟩ := hv.len
  subst en
  clear hv
  go_enter Try.func31, Try.ntmps31
  go_wp2_with fail
  go_loopw [3, 4] (fun vb i wr => ∃ k : Nat, k ≤ l.length ∧ i = .int .i64 k ∧ Hid (OwnR wr w.heap.size 73 2 vb ((l.take k).map nrow)) ∧ Hid (Below w.heap.size w wr)) (fun _ i _ => l.length - (intOf i).toNat)
  case atStart => exact ⟨0, Nat.zero_le _, rfl, OwnR.nil _ _ _ _, Below.refl _ _⟩
  case round =>
    obtain ⟨k, hk, rfl, HO, up⟩ := hrel
    by_cases hlt : k < l.length
    · have hlt' : (k : Int) < (l.length : Int) := by omega
      obtain ⟨b, off, cap', e, _, _, c0, c1, ho, hln, hi'⟩ := (HN.out.up up.out).at k hlt
      simp at e
      obtain ⟨rfl, rfl⟩ := e
      have HT : Hid (l.take (k + 1) = l.take k ++ [l.getD k ([], 0)]) := take_snoc l k _ hlt
      have HKl : Hid (((l.take k).map nrow).length = k) := by simp [Hid]; omega
      generalize l.getD k ([], 0) = y at *
      obtain ⟨ys, yi⟩ := y
      simp only at c0 c1 HT
      have hsz2 := up.out.size
      obtain ⟨vl, cl, ev5, _, _⟩ := (Rws.own HO.out).len
      subst ev5
      rw [HKl.out] at HO ⊢
      go_wp2_with (at_builtin; refine wpList_append_row wr rfl (.tmp 11) (.tmp 16) 31 73 (.agg #[.string ⟨#[]⟩, .int .i64 0]) 2 24 rfl Try.underlying31 Try.info73 rfl (by decide) w.heap.size (.slice vl k cl) _ rfl HO.out (nrow (ys, yi)) _ wr.heap.size rfl rfl rfl rfl ?n2 ?n3 ?n4 hsz2 ?_)
      try case n2 => (intro u hu; simp [nrow] at hu; rcases hu with rfl | rfl <;> rfl)
      try case n3 => ((try rw [HKl.out]); omega)
      try case n4 => ((try rw [HKl.out]); unfold maxLen; omega)
      intro v6 w6 o6 b6
      have HO6 : Hid (OwnR w6 w.heap.size 73 2 v6 ((l.take (k + 1)).map nrow)) := by
        unfold Hid
        rw [HT.out, List.map_append]
        simpa using o6
      have HU6 : Hid (Below w.heap.size w w6) := up.out.trans b6
      clear o6 b6
      go_wp2_with fail
      exact ⟨⟨k + 1, by omega, by go_num, HO6, HU6⟩, by simp [intOf]; omega⟩
    · have hlt' : ¬ (k : Int) < (l.length : Int) := by omega
      obtain rfl : k = l.length := by omega
      rw [List.take_length] at HO
      have HO6 := HO
      go_wp2_with fail
      go_ret
      exact ⟨_, rfl, ⟨HN.out.1, HO6.out⟩, up.out⟩
end Go.Proofs.Ytoceddpjkodfkaa
