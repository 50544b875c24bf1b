/- The document's with: names, and one more in its place. -/
import Derived.Test.YtoceddpjkodfkaaFList
import Derived.Test.YtoceddpjkodfkaaFNames
namespace Go.Proofs.Ytoceddpjkodfkaa
open Go.RowKit
set_option linter.unusedVariables false
set_option linter.unusedSimpArgs false

/-- One name further: what is laid so far, and whether x is among it. -/
def withStep (x : List Int × Int) (o : List (List Int × Int) × Bool) (p : List Int × Int) : List (List Int × Int) × Bool :=
  if o.2 = false ∧ lessL x.1 p.1 = true then (o.1 ++ [x] ++ [p], true) else (o.1 ++ [p], o.2)

def withK (l : List (List Int × Int)) (x : List Int × Int) : List (List Int × Int) × Bool := l.foldl (withStep x) ([], false)

def withOf (l : List (List Int × Int)) (x : List Int × Int) : List (List Int × Int) := if (withK l x).2 then (withK l x).1 else (withK l x).1 ++ [x]

theorem withK_snoc (l : List (List Int × Int)) (x : List Int × Int) (k : Nat) (h : k < l.length) : withK (l.take (k + 1)) x = withStep x (withK (l.take k) x) (l.getD k ([], 0)) := by
  rw [take_snoc l k ([], 0) h]
  simp [withK]

theorem withStep_len (x : List Int × Int) (o : List (List Int × Int) × Bool) (p : List Int × Int) : (withStep x o p).1.length + (if (withStep x o p).2 then 0 else 1) ≤ o.1.length + (if o.2 then 0 else 1) + 1 := by
  unfold withStep
  obtain ⟨a, b⟩ := o
  cases b
  · by_cases c : lessL x.1 p.1 = true
    · simp [c]
    · simp [c]
  · simp

theorem withK_len (x : List Int × Int) (l : List (List Int × Int)) (k : Nat) (hk : k ≤ l.length) : (withK (l.take k) x).1.length + (if (withK (l.take k) x).2 then 0 else 1) ≤ k + 1 := by
  induction k with
  | zero => simp [withK]
  | succ k ih =>
    rw [withK_snoc l x k (by omega)]
    have h1 := ih (by omega)
    have h2 := withStep_len x (withK (l.take k) x) (l.getD k ([], 0))
    omega

theorem OwnN.snoc {w0 w : World} {base : Nat} {e : TypeId} {v v0 : Value} {l : List (List Int × Int)} {p : List Int × Int} (h : OwnN w0 base e v0 l) (hp : OctL p.1 ∧ p.1.length ≤ 140737488355328 ∧ In64 p.2) (ho : OwnR w base e 2 v (l.map nrow ++ [nrow p])) : OwnN w base e v (l ++ [p]) := by
  refine ⟨?_, ?_⟩
  · intro q hq
    rcases List.mem_append.1 hq with h' | h'
    · exact h.1 q h'
    · simp at h'
      subst h'
      exact hp
  · rw [List.map_append]
    exact ho

set_option maxHeartbeats 2000000 in
theorem refWith_any (l : List (List Int × Int)) (xs : List Int) (xi : Int) (hx : OctL xs ∧ xs.length ≤ 140737488355328 ∧ In64 xi) (v : Value) (w : World) (hv : NamesW w v l) (hl : l.length ≤ 4398046511000) :
    Calls Try.prog 37 #[v, .agg #[.string (strOfNums xs), .int .i64 xi]] w fun e w' => ∃ v', e = .returned v' ∧ OwnN w' (w.heap.size + 1) 88 v' (withOf l (xs, xi)) ∧ Below w.heap.size w w' := by
  have HV : Hid (NamesW w v l) := hv
  have HXw : Hid (OctL xs ∧ xs.length ≤ 140737488355328 ∧ In64 xi) := hx
  obtain ⟨a, cap, rfl, hcap, hmax⟩ := hv.len
  clear hv hx
  unfold maxLen at hmax
  go_enter Try.func37, Try.ntmps37
  go_wp2
  go_loopw [5, 6, 7] (fun vb lb i wr => ∃ (k : Nat) (o : List (List Int × Int)) (laid : Bool), k ≤ l.length ∧ i = .int .i64 k ∧ lb = .bool laid ∧ Hid (withK (l.take k) (xs, xi) = (o, laid)) ∧ Hid (OwnN wr (w.heap.size + 1) 88 vb o) ∧ Hid (Below (w.heap.size + 1) (w.alloc (.cells #[.string (strOfNums xs), .int .i64 xi] 88)) wr)) (fun _ _ i _ => l.length - (intOf i).toNat)
  case atStart => exact ⟨0, [], false, Nat.zero_le _, rfl, rfl, rfl, OwnN.nil _ _ _, Below.refl _ _⟩
  case round =>
    obtain ⟨k, o, laid, hk, rfl, rfl, HO, HW, HB⟩ := hrel
    have up : Hid (Below w.heap.size w wr) := (up_al (Below.refl _ _) (.cells #[.string (strOfNums xs), .int .i64 xi] 88)).trans (HB.out.mono (by omega))
    have hws : w.heap.size + 1 ≤ wr.heap.size := by simpa using HB.out.size
    have q0 : wr.cell? ⟨w.heap.size, 0, none⟩ = some (.string (strOfNums xs)) := (HB.out.cell (p := ⟨w.heap.size, 0, none⟩) (by simp)).trans (World.cell?_alloc_new w _ _ 0)
    have q1 : wr.cell? ⟨w.heap.size, 1, none⟩ = some (.int .i64 xi) := (HB.out.cell (p := ⟨w.heap.size, 1, none⟩) (by simp)).trans (World.cell?_alloc_new w _ _ 1)
    have hlen := withK_len (xs, xi) l k hk
    rw [HO.out] at hlen
    have holen : o.length ≤ k + 1 := by simp only at hlen; omega
    clear hlen
    by_cases hlt : k < l.length
    · have hlt' : (k : Int) < (l.length : Int) := by omega
      obtain ⟨b, off, cap', e, _, _, c0, c1, ho, hol, hi⟩ := (HV.out.up up.out).at k hlt
      simp at e
      obtain ⟨rfl, rfl⟩ := e
      have HT : Hid (withK (l.take (k + 1)) (xs, xi) = withStep (xs, xi) (o, laid) (l.getD k ([], 0))) := by unfold Hid; rw [withK_snoc l (xs, xi) k hlt, HO.out]
      obtain ⟨y, hyk⟩ : ∃ y, y = l.getD k ([], 0) := ⟨_, rfl⟩
      rw [← hyk] at c0 c1 ho hol hi HT
      obtain ⟨ys, yi⟩ := y
      have HYk : Hid (l.getD k ([], 0) = (ys, yi)) := hyk.symm
      clear hyk
      simp only at c0 c1 ho hol hi
      have HY : Hid (OctL ys ∧ ys.length ≤ 140737488355328 ∧ In64 yi) := ⟨ho, hol, hi⟩
      have HL1 : Hid (Op.bytesLess (strOfNums ys).toList (strOfNums xs).toList = lessL ys xs) := str_less ys xs ho HXw.out.1
      have HL2 : Hid (((strOfNums ys).toList == (strOfNums xs).toList) = decide (ys = xs)) := str_eq ys xs ho HXw.out.1
      have HL3 : Hid ((lessL ys xs || decide (ys = xs)) = !lessL xs ys) := less_not ys xs
      have HBq : Hid (∀ n, Below (w.heap.size + 1) (w.alloc (.cells #[.string (strOfNums xs), .int .i64 xi] 88)) (wr.drewN n)) := fun n => HB.out.trans ((up_drewN _ n).mono hws)
      clear ho hol hi
      cases laid
      · cases hless : lessL xs ys
        · have hle : (!Op.bytesLess (strOfNums ys).toList (strOfNums xs).toList && !((strOfNums ys).toList == (strOfNums xs).toList)) = false := by
            have h3 := HL3.out
            rw [hless, Bool.not_false] at h3
            rw [HL1.out, HL2.out, ← Bool.not_or, h3]
            rfl
          have HT2 : Hid (withK (l.take (k + 1)) (xs, xi) = (o ++ [(ys, yi)], false)) := by unfold Hid; rw [HT.out]; simp [withStep, hless]
          clear HT
          have HT := HT2
          go_wp2_with fail
          go_quiet (fail)
          go_wp2_with (at_builtin; refine wpList_append_row _ rfl _ _ 23 88 (.agg #[.string ⟨#[]⟩, .int .i64 0]) 2 24 rfl Try.underlying23 Try.info88 rfl (by decide) (w.heap.size + 1) _ (o.map nrow) rfl HW.out.2 (nrow (ys, yi)) _ _ rfl rfl rfl rfl ?o1B ?c1B ?c2B ?c3B ?_)
          try case o1B => exact nrow_one [(ys, yi)] _ (by simp)
          try case c1B => ((try simp only [List.length_map, List.length_append, List.length_cons, List.length_nil]); omega)
          try case c2B => ((try simp only [List.length_map, List.length_append, List.length_cons, List.length_nil]); unfold maxLen; omega)
          try case c3B => exact hws
          intro v' w3 hown hb3
          have HW3 : Hid (OwnN w3 (w.heap.size + 1) 88 v' (o ++ [(ys, yi)])) := HW.out.snoc HY.out hown
          have HB3 : Hid (Below (w.heap.size + 1) (w.alloc (.cells #[.string (strOfNums xs), .int .i64 xi] 88)) w3) := (HBq.out _).trans hb3
          clear hown hb3
          go_wp2
          exact ⟨⟨k + 1, o ++ [(ys, yi)], false, by omega, by go_num, rfl, HT, HW3, HB3⟩, by simp [intOf]; omega⟩
        · have h3 := HL3.out
          rw [hless, Bool.not_true] at h3
          have hle1 : Op.bytesLess (strOfNums ys).toList (strOfNums xs).toList = false := by rw [HL1.out]; exact (Bool.or_eq_false_iff.1 h3).1
          have hle2 : ((strOfNums ys).toList == (strOfNums xs).toList) = false := by rw [HL2.out]; exact (Bool.or_eq_false_iff.1 h3).2
          clear h3
          have HT2 : Hid (withK (l.take (k + 1)) (xs, xi) = (o ++ [(xs, xi)] ++ [(ys, yi)], true)) := by unfold Hid; rw [HT.out]; simp [withStep, hless]
          clear HT
          go_wp2_with fail
          go_quiet (fail)
          go_wp2_with (at_builtin; refine wpList_append_row _ rfl _ _ 23 88 (.agg #[.string ⟨#[]⟩, .int .i64 0]) 2 24 rfl Try.underlying23 Try.info88 rfl (by decide) (w.heap.size + 1) _ (o.map nrow) rfl HW.out.2 (nrow (xs, xi)) _ _ rfl rfl rfl rfl ?o1E ?c1E ?c2E ?c3E ?_)
          try case o1E => exact nrow_one [(xs, xi)] _ (by simp)
          try case c1E => ((try simp only [List.length_map, List.length_append, List.length_cons, List.length_nil]); omega)
          try case c2E => ((try simp only [List.length_map, List.length_append, List.length_cons, List.length_nil]); unfold maxLen; omega)
          try case c3E => exact hws
          intro v' w3 hown hb3
          have HW3 : Hid (OwnN w3 (w.heap.size + 1) 88 v' (o ++ [(xs, xi)])) := HW.out.snoc HXw.out hown
          have HB3 : Hid (Below (w.heap.size + 1) (w.alloc (.cells #[.string (strOfNums xs), .int .i64 xi] 88)) w3) := (HBq.out _).trans hb3
          have hws3 : w.heap.size + 1 ≤ w3.heap.size := by simpa using HB3.out.size
          have hup3 : Below w.heap.size w w3 := (up_al (Below.refl _ _) (.cells #[.string (strOfNums xs), .int .i64 xi] 88)).trans (HB3.out.mono (by omega))
          obtain ⟨_, _, _, e, _, _, c0', c1', _⟩ := (HV.out.up hup3).at k hlt
          simp at e
          obtain ⟨⟨rfl, rfl⟩, rfl⟩ := e
          rw [HYk.out] at c0' c1'
          clear hown hb3 hup3
          simp only at c0' c1'
          go_wp2_with (at_builtin; refine wpList_append_row _ rfl _ _ 23 88 (.agg #[.string ⟨#[]⟩, .int .i64 0]) 2 24 rfl Try.underlying23 Try.info88 rfl (by decide) (w.heap.size + 1) _ ((o ++ [(xs, xi)]).map nrow) rfl HW3.out.2 (nrow (ys, yi)) _ _ rfl rfl rfl rfl ?o1G ?c1G ?c2G ?c3G ?_)
          try case o1G => exact nrow_one [(ys, yi)] _ (by simp)
          try case c1G => ((try simp only [List.length_map, List.length_append, List.length_cons, List.length_nil]); omega)
          try case c2G => ((try simp only [List.length_map, List.length_append, List.length_cons, List.length_nil]); unfold maxLen; omega)
          try case c3G => exact hws3
          intro v' w4 hown hb4
          have HW4 : Hid (OwnN w4 (w.heap.size + 1) 88 v' (o ++ [(xs, xi)] ++ [(ys, yi)])) := HW3.out.snoc HY.out (by simpa using hown)
          have HB4 : Hid (Below (w.heap.size + 1) (w.alloc (.cells #[.string (strOfNums xs), .int .i64 xi] 88)) w4) := HB3.out.trans hb4
          clear hown hb4
          go_wp2
          exact ⟨⟨k + 1, o ++ [(xs, xi)] ++ [(ys, yi)], true, by omega, by go_num, rfl, HT2, HW4, HB4⟩, by simp [intOf]; omega⟩
      · have HT2 : Hid (withK (l.take (k + 1)) (xs, xi) = (o ++ [(ys, yi)], true)) := by unfold Hid; rw [HT.out]; simp [withStep]
        clear HT
        have HT := HT2
        go_wp2_with fail
        go_quiet (fail)
        go_wp2_with (at_builtin; refine wpList_append_row _ rfl _ _ 23 88 (.agg #[.string ⟨#[]⟩, .int .i64 0]) 2 24 rfl Try.underlying23 Try.info88 rfl (by decide) (w.heap.size + 1) _ (o.map nrow) rfl HW.out.2 (nrow (ys, yi)) _ _ rfl rfl rfl rfl ?o1D ?c1D ?c2D ?c3D ?_)
        try case o1D => exact nrow_one [(ys, yi)] _ (by simp)
        try case c1D => ((try simp only [List.length_map, List.length_append, List.length_cons, List.length_nil]); omega)
        try case c2D => ((try simp only [List.length_map, List.length_append, List.length_cons, List.length_nil]); unfold maxLen; omega)
        try case c3D => exact hws
        intro v' w3 hown hb3
        have HW3 : Hid (OwnN w3 (w.heap.size + 1) 88 v' (o ++ [(ys, yi)])) := HW.out.snoc HY.out hown
        have HB3 : Hid (Below (w.heap.size + 1) (w.alloc (.cells #[.string (strOfNums xs), .int .i64 xi] 88)) w3) := (HBq.out _).trans hb3
        clear hown hb3
        go_wp2
        exact ⟨⟨k + 1, o ++ [(ys, yi)], true, by omega, by go_num, rfl, HT, HW3, HB3⟩, by simp [intOf]; omega⟩
    · have hlt' : ¬ (k : Int) < (l.length : Int) := by omega
      obtain rfl : k = l.length := by omega
      rw [List.take_length] at HO
      cases laid
      · have HF : Hid (withOf l (xs, xi) = o ++ [(xs, xi)]) := by unfold Hid withOf; rw [HO.out]; rfl
        go_wp2_with (at_builtin; refine wpList_append_row _ rfl _ _ 23 88 (.agg #[.string ⟨#[]⟩, .int .i64 0]) 2 24 rfl Try.underlying23 Try.info88 rfl (by decide) (w.heap.size + 1) _ (o.map nrow) rfl HW.out.2 (nrow (xs, xi)) _ _ rfl rfl rfl rfl ?o1A ?c1A ?c2A ?c3A ?_)
        try case o1A => exact nrow_one [(xs, xi)] _ (by simp)
        try case c1A => ((try simp only [List.length_map]); omega)
        try case c2A => ((try simp only [List.length_map]); unfold maxLen; omega)
        try case c3A => exact hws
        intro v' w3 hown hb3
        have HW3 : Hid (OwnN w3 (w.heap.size + 1) 88 v' (o ++ [(xs, xi)])) := HW.out.snoc HXw.out hown
        have HB3 : Hid (Below w.heap.size w w3) := up.out.trans (hb3.mono (by omega))
        clear hown hb3
        go_wp2
        go_ret
        rw [HF.out]
        exact ⟨_, rfl, HW3.out, HB3.out⟩
      · have HF : Hid (withOf l (xs, xi) = o) := by unfold Hid withOf; rw [HO.out]; rfl
        go_wp2
        go_ret
        rw [HF.out]
        exact ⟨_, rfl, HW.out, up.out⟩
end Go.Proofs.Ytoceddpjkodfkaa
