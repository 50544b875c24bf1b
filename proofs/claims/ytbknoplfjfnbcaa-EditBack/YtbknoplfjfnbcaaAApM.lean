/- Apply in plain words: what is sorted and what is put one by one, where it may be, are one. -/
import Derived.Test.YtbknoplfjfnbcaaASort
import Derived.Test.YtbknoplfjfnbcaaAWo
namespace Go.Proofs.Ytbknoplfjfnbcaa
open Go.RowKit
set_option linter.unusedVariables false
set_option linter.unusedSimpArgs false

theorem befM_asymm {a b : Me} (h : befM a b = true) : befM b a = false := by
  cases q : befM b a
  · rfl
  · have := befM_trans h q
    rw [befM_irrefl] at this
    cases this
theorem putM_perm (m : Me) : ∀ l, (putM m l).Perm (l ++ [m])
  | [] => .refl _
  | x :: r => by
    rw [putM]
    by_cases h : befM x m = true
    · rw [if_pos h]
      exact (putM_perm m r).cons x
    · rw [if_neg h]
      have : (m :: x :: r).Perm ((x :: r) ++ [m]) := (List.perm_append_singleton m (x :: r)).symm
      exact this
theorem putsM_perm : ∀ (add l : List Me), (putsM add l).Perm (l ++ add)
  | [], l => by simp [putsM]
  | m :: r, l => by
    rw [putsM]
    have h1 := putsM_perm r (putM m l)
    have h2 := (putM_perm m l).append_right r
    refine h1.trans (h2.trans ?_)
    simp
theorem putM_mem (m : Me) (l : List Me) (x : Me) (h : x ∈ putM m l) : x = m ∨ x ∈ l := by
  have := (putM_perm m l).mem_iff.1 h
  simp at this
  exact this.symm
theorem putM_srt (m : Me) : ∀ l, SrtM l → SrtM (putM m l)
  | [], h => by simp [putM, SrtM]
  | x :: r, h => by
    unfold SrtM at *
    rw [List.pairwise_cons] at h
    rw [putM]
    by_cases q : befM x m = true
    · rw [if_pos q, List.pairwise_cons]
      refine ⟨fun y hy => ?_, putM_srt m r h.2⟩
      rcases putM_mem m r y hy with rfl | hy
      · exact befM_asymm q
      · exact h.1 y hy
    · rw [if_neg q, List.pairwise_cons, List.pairwise_cons]
      have q' : befM x m = false := by simpa using q
      refine ⟨fun y hy => ?_, h.1, h.2⟩
      rcases List.mem_cons.1 hy with rfl | hy
      · exact q'
      · exact befM_ntrans y x m (h.1 y hy) q'
theorem putsM_srt : ∀ (add l : List Me), SrtM l → SrtM (putsM add l)
  | [], l, h => h
  | m :: r, l, h => putsM_srt r _ (putM_srt m l h)
/-- A version that may be is sorted, and no two of its tables stand alike. -/
theorem chk_pair {next : Int} {ts : List Me} (h : allM next [] ts = true) : ts.Pairwise (fun a b => befM a b = true) := by
  rw [List.pairwise_iff_getElem]
  intro i j hi hj hij
  refine chk_asc h j ts[j] (List.getElem?_eq_getElem hj) ts[i] ?_
  rw [List.mem_take_iff_getElem]
  exact ⟨i, by omega, rfl⟩
theorem chk_srt {next : Int} {ts : List Me} (h : allM next [] ts = true) : SrtM ts := by
  have hp := chk_pair h
  unfold SrtM
  rw [List.pairwise_iff_getElem] at hp ⊢
  intro i j hi hj hij
  exact befM_asymm (hp i j hi hj hij)
/-- Of sorted arrangements of one list, one of which goes strictly, there is one. -/
theorem srt_unique : ∀ (a b : List Me), a.Perm b → a.Pairwise (fun x y => befM x y = true) → SrtM b → a = b
  | [], b, hp, _, _ => (List.Perm.nil_eq hp)
  | x :: a, b, hp, ha, hb => by
    cases b with
    | nil => exact absurd hp.length_eq (by simp)
    | cons y b =>
      unfold SrtM at hb
      rw [List.pairwise_cons] at ha hb
      have hxy : x = y := by
        have hx : x ∈ y :: b := hp.mem_iff.1 (by simp)
        have hy : y ∈ x :: a := hp.mem_iff.2 (by simp)
        rcases List.mem_cons.1 hx with e | hx
        · exact e
        · rcases List.mem_cons.1 hy with e | hy
          · exact e.symm
          · have h1 := ha.1 y hy
            have h2 := hb.1 x hx
            rw [h1] at h2
            cases h2
      subst hxy
      rw [srt_unique a b (hp.cons_inv) ha.2 hb.2]
theorem errV_cases (ts : List Me) (s n : Int) : errV ts s n = 0 ∨ errV ts s n = 9 := by
  unfold errV
  split
  · exact .inl rfl
  · exact .inr rfl
theorem errV_zero {ts : List Me} {s n : Int} : errV ts s n = 0 ↔ chkV ts s n = true := by
  unfold errV
  constructor
  · intro h
    by_cases q : chkV ts s n = true
    · exact q
    · rw [if_neg q] at h; cases h
  · intro h; rw [if_pos h]
theorem chkV_all {ts : List Me} {s n : Int} (h : chkV ts s n = true) : allM n [] ts = true := by
  unfold chkV at h
  rw [Bool.and_eq_true] at h
  exact h.2
/-- What is sorted may be just if what is put one by one may be; then they are one. -/
theorem app_same {l l' add : List Me} {s n : Int} (hp : l'.Perm (l ++ add)) (hs : SrtM l') (hl : SrtM l) : errV l' s n = errV (putsM add l) s n ∧ (errV l' s n = 0 → l' = putsM add l) := by
  have hq : l'.Perm (putsM add l) := hp.trans (putsM_perm add l).symm
  have hs2 : SrtM (putsM add l) := putsM_srt add l hl
  rcases errV_cases l' s n with h | h
  · have e := srt_unique l' _ hq (chk_pair (chkV_all (errV_zero.1 h))) hs2
    rw [← e]
    exact ⟨rfl, fun _ => rfl⟩
  · rcases errV_cases (putsM add l) s n with h2 | h2
    · have e := srt_unique _ l' hq.symm (chk_pair (chkV_all (errV_zero.1 h2))) hs
      rw [e] at h2
      rw [h] at h2
      cases h2
    · rw [h, h2]
      exact ⟨rfl, fun q => by cases q⟩
theorem app_bad {ts : List Me} {s n : Int} {d : List Int} {add : List Me} {s' n' : Int} (h : errV ts s n = 9) : appM ts s n d add s' n' = ([], 9) := by
  unfold appM
  have : ¬ chkV ts s n = true := fun q => by rw [errV_zero.2 q] at h; cases h
  rw [if_neg this]
theorem chk_nodup {ts : List Me} {s n : Int} (h : errV ts s n = 0) : (ts.map Me.id).Nodup := ((allM_iff n ts).1 (chkV_all (errV_zero.1 h))).2
theorem chk_len {ts : List Me} {s n : Int} (h : errV ts s n = 0) : ts.length ≤ 256 := by
  have := errV_zero.1 h
  unfold chkV at this
  rw [Bool.and_eq_true, decide_eq_true_eq] at this
  exact this.1.1
theorem chk_may {ts : List Me} {s n : Int} (h : errV ts s n = 0) : ∀ m ∈ ts, mayM m = true := by
  intro m hm
  obtain ⟨k, hk, rfl⟩ := List.getElem_of_mem hm
  have := ((allM_iff n ts).1 (chkV_all (errV_zero.1 h))).1 k _ (List.getElem?_eq_getElem hk)
  unfold headM at this
  rw [Bool.and_eq_true] at this
  exact this.1
theorem may_in64 {m : Me} (h : mayM m = true) : In64 m.id := by
  rw [mayM_eq] at h
  simp only [Bool.and_eq_true, decide_eq_true_eq] at h
  unfold In64; omega
theorem app_none {ts : List Me} {s n : Int} {d : List Int} {add : List Me} {s' n' : Int} (h : errV ts s n = 0) (hd : dropIds d (idsM ts) = none) : appM ts s n d add s' n' = ([], 71) := by
  unfold appM
  rw [if_pos (errV_zero.1 h), drops_ids ts (chk_nodup h), hd]
  rfl
theorem app_low {ts : List Me} {s n : Int} {d : List Int} {add : List Me} {s' n' : Int} {r : List Int} (h : errV ts s n = 0) (hd : dropIds d (idsM ts) = some r) (hr : s' < s ∨ n' < n) : appM ts s n d add s' n' = ([], 4) := by
  unfold appM
  rw [if_pos (errV_zero.1 h), drops_ids ts (chk_nodup h), hd]
  simp only [Option.map_some]
  rw [if_pos hr]
theorem app_last {ts l' : List Me} {s n : Int} {d : List Int} {add : List Me} {s' n' : Int} {r : List Int} (h : errV ts s n = 0) (hd : dropIds d (idsM ts) = some r) (hr : ¬ (s' < s ∨ n' < n)) (hp : l'.Perm (ts.filter (keepM r) ++ add)) (hs : SrtM l') :
    appM ts s n d add s' n' = if errV l' s' n' = 0 then (l', 0) else ([], 9) := by
  have hl : SrtM (ts.filter (keepM r)) := (chk_srt (chkV_all (errV_zero.1 h))).filter _
  obtain ⟨e1, e2⟩ := app_same (s := s') (n := n') hp hs hl
  unfold appM
  rw [if_pos (errV_zero.1 h), drops_ids ts (chk_nodup h), hd]
  simp only [Option.map_some]
  rw [if_neg hr]
  by_cases ha : 256 < add.length
  · rw [if_pos ha, if_neg]
    intro q
    have h1 := chk_len q
    rw [hp.length_eq, List.length_append] at h1
    omega
  · rw [if_neg ha]
    by_cases q : errV l' s' n' = 0
    · rw [if_pos q, e2 q, if_pos]
      rw [← e2 q]
      exact errV_zero.1 q
    · rw [if_neg q, if_neg]
      intro r2
      exact q (by rw [e1]; exact errV_zero.2 r2)
theorem app_zero {ts : List Me} {s n : Int} {d : List Int} {add : List Me} {s' n' : Int} (h : (appM ts s n d add s' n').2 = 0) : chkV (appM ts s n d add s' n').1 s' n' = true ∧ ¬ (s' < s ∨ n' < n) := by
  unfold appM at *
  by_cases h1 : chkV ts s n = true
  · rw [if_pos h1] at h ⊢
    cases hd : dropsM d ts with
    | none => rw [hd] at h; cases h
    | some l =>
      rw [hd] at h
      simp only at h ⊢
      by_cases h2 : s' < s ∨ n' < n
      · rw [if_pos h2] at h; cases h
      · rw [if_neg h2] at h ⊢
        by_cases h3 : 256 < add.length
        · rw [if_pos h3] at h; cases h
        · rw [if_neg h3] at h ⊢
          by_cases h4 : chkV (putsM add l) s' n' = true
          · rw [if_pos h4] at h ⊢
            exact ⟨h4, h2⟩
          · rw [if_neg h4] at h; cases h
  · rw [if_neg h1] at h; cases h
theorem app_empty {ts : List Me} {s n : Int} {d : List Int} {add : List Me} {s' n' : Int} (h : (appM ts s n d add s' n').2 ≠ 0) : (appM ts s n d add s' n').1 = [] := by
  unfold appM at *
  by_cases h1 : chkV ts s n = true
  · rw [if_pos h1] at h ⊢
    cases hd : dropsM d ts with
    | none => rfl
    | some l =>
      rw [hd] at h
      simp only at h ⊢
      by_cases h2 : s' < s ∨ n' < n
      · rw [if_pos h2]
      · rw [if_neg h2] at h ⊢
        by_cases h3 : 256 < add.length
        · rw [if_pos h3]
        · rw [if_neg h3] at h ⊢
          by_cases h4 : chkV (putsM add l) s' n' = true
          · rw [if_pos h4] at h; exact absurd rfl h
          · rw [if_neg h4]
  · rw [if_neg h1]
end Go.Proofs.Ytbknoplfjfnbcaa
