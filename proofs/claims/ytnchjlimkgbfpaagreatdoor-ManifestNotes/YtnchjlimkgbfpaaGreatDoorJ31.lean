/- The texts AApM, OMath, NWr, in this order. -/
import Derived.Test.YtnchjlimkgbfpaaGreatDoorJ30
import Derived.Test.YtnchjlimkgbfpaaGreatDoorJ18
import Derived.Test.YtnchjlimkgbfpaaGreatDoorJ26
import Derived.Test.YtnchjlimkgbfpaaGreatDoorJ27
import Derived.Test.YtnchjlimkgbfpaaGreatDoorJ02
import Derived.Test.YtnchjlimkgbfpaaGreatDoorJ28

namespace Go.Proofs.YtnchjlimkgbfpaaGreatDoor
open Go.RowKit
set_option linter.unusedVariables false
set_option maxRecDepth 20000
set_option linter.unusedSimpArgs false
theorem befM_asymm {a b : Me} (h : befM a b = true) : befM b a = false := by
  cases q : befM b a
  · rfl
  · have := befM_trans h q
    rw [befM_irrefl] at this
    cases this
theorem putM_perm (m : Me) : ∀ l, (putM m l).Perm (l ++ [m])
  | [] => .refl _
  | x :: r => by
    rw [putM]
    by_cases h : befM x m = true
    · rw [if_pos h]
      exact (putM_perm m r).cons x
    · rw [if_neg h]
      have : (m :: x :: r).Perm ((x :: r) ++ [m]) := (List.perm_append_singleton m (x :: r)).symm
      exact this
theorem putsM_perm : ∀ (add l : List Me), (putsM add l).Perm (l ++ add)
  | [], l => by simp [putsM]
  | m :: r, l => by
    rw [putsM]
    have h1 := putsM_perm r (putM m l)
    have h2 := (putM_perm m l).append_right r
    refine h1.trans (h2.trans ?_)
    simp
theorem putM_mem (m : Me) (l : List Me) (x : Me) (h : x ∈ putM m l) : x = m ∨ x ∈ l := by
  have := (putM_perm m l).mem_iff.1 h
  simp at this
  exact this.symm
theorem putM_srt (m : Me) : ∀ l, SrtM l → SrtM (putM m l)
  | [], h => by simp [putM, SrtM]
  | x :: r, h => by
    unfold SrtM at *
    rw [List.pairwise_cons] at h
    rw [putM]
    by_cases q : befM x m = true
    · rw [if_pos q, List.pairwise_cons]
      refine ⟨fun y hy => ?_, putM_srt m r h.2⟩
      rcases putM_mem m r y hy with rfl | hy
      · exact befM_asymm q
      · exact h.1 y hy
    · rw [if_neg q, List.pairwise_cons, List.pairwise_cons]
      have q' : befM x m = false := by simpa using q
      refine ⟨fun y hy => ?_, h.1, h.2⟩
      rcases List.mem_cons.1 hy with rfl | hy
      · exact q'
      · exact befM_ntrans y x m (h.1 y hy) q'
theorem putsM_srt : ∀ (add l : List Me), SrtM l → SrtM (putsM add l)
  | [], l, h => h
  | m :: r, l, h => putsM_srt r _ (putM_srt m l h)
theorem chk_pair {next : Int} {ts : List Me} (h : allM next [] ts = true) : ts.Pairwise (fun a b => befM a b = true) := by
  rw [List.pairwise_iff_getElem]
  intro i j hi hj hij
  refine chk_asc h j ts[j] (List.getElem?_eq_getElem hj) ts[i] ?_
  rw [List.mem_take_iff_getElem]
  exact ⟨i, by omega, rfl⟩
theorem chk_srt {next : Int} {ts : List Me} (h : allM next [] ts = true) : SrtM ts := by
  have hp := chk_pair h
  unfold SrtM
  rw [List.pairwise_iff_getElem] at hp ⊢
  intro i j hi hj hij
  exact befM_asymm (hp i j hi hj hij)
theorem srt_unique : ∀ (a b : List Me), a.Perm b → a.Pairwise (fun x y => befM x y = true) → SrtM b → a = b
  | [], b, hp, _, _ => (List.Perm.nil_eq hp)
  | x :: a, b, hp, ha, hb => by
    cases b with
    | nil => exact absurd hp.length_eq (by simp)
    | cons y b =>
      unfold SrtM at hb
      rw [List.pairwise_cons] at ha hb
      have hxy : x = y := by
        have hx : x ∈ y :: b := hp.mem_iff.1 (by simp)
        have hy : y ∈ x :: a := hp.mem_iff.2 (by simp)
        rcases List.mem_cons.1 hx with e | hx
        · exact e
        · rcases List.mem_cons.1 hy with e | hy
          · exact e.symm
          · have h1 := ha.1 y hy
            have h2 := hb.1 x hx
            rw [h1] at h2
            cases h2
      subst hxy
      rw [srt_unique a b (hp.cons_inv) ha.2 hb.2]
theorem errV_cases (ts : List Me) (s n : Int) : errV ts s n = 0 ∨ errV ts s n = 9 := by
  unfold errV
  split
  · exact .inl rfl
  · exact .inr rfl
theorem errV_zero {ts : List Me} {s n : Int} : errV ts s n = 0 ↔ chkV ts s n = true := by
  unfold errV
  constructor
  · intro h
    by_cases q : chkV ts s n = true
    · exact q
    · rw [if_neg q] at h; cases h
  · intro h; rw [if_pos h]
theorem chkV_all {ts : List Me} {s n : Int} (h : chkV ts s n = true) : allM n [] ts = true := by
  unfold chkV at h
  rw [Bool.and_eq_true] at h
  exact h.2
theorem app_same {l l' add : List Me} {s n : Int} (hp : l'.Perm (l ++ add)) (hs : SrtM l') (hl : SrtM l) : errV l' s n = errV (putsM add l) s n ∧ (errV l' s n = 0 → l' = putsM add l) := by
  have hq : l'.Perm (putsM add l) := hp.trans (putsM_perm add l).symm
  have hs2 : SrtM (putsM add l) := putsM_srt add l hl
  rcases errV_cases l' s n with h | h
  · have e := srt_unique l' _ hq (chk_pair (chkV_all (errV_zero.1 h))) hs2
    rw [← e]
    exact ⟨rfl, fun _ => rfl⟩
  · rcases errV_cases (putsM add l) s n with h2 | h2
    · have e := srt_unique _ l' hq.symm (chk_pair (chkV_all (errV_zero.1 h2))) hs
      rw [e] at h2
      rw [h] at h2
      cases h2
    · rw [h, h2]
      exact ⟨rfl, fun q => by cases q⟩
theorem app_bad {ts : List Me} {s n : Int} {d : List Int} {add : List Me} {s' n' : Int} (h : errV ts s n = 9) : appM ts s n d add s' n' = ([], 9) := by
  unfold appM
  have : ¬ chkV ts s n = true := fun q => by rw [errV_zero.2 q] at h; cases h
  rw [if_neg this]
theorem chk_nodup {ts : List Me} {s n : Int} (h : errV ts s n = 0) : (ts.map Me.id).Nodup := ((allM_iff n ts).1 (chkV_all (errV_zero.1 h))).2
theorem chk_len {ts : List Me} {s n : Int} (h : errV ts s n = 0) : ts.length ≤ 256 := by
  have := errV_zero.1 h
  unfold chkV at this
  rw [Bool.and_eq_true, decide_eq_true_eq] at this
  exact this.1.1
theorem chk_may {ts : List Me} {s n : Int} (h : errV ts s n = 0) : ∀ m ∈ ts, mayM m = true := by
  intro m hm
  obtain ⟨k, hk, rfl⟩ := List.getElem_of_mem hm
  have := ((allM_iff n ts).1 (chkV_all (errV_zero.1 h))).1 k _ (List.getElem?_eq_getElem hk)
  unfold headM at this
  rw [Bool.and_eq_true] at this
  exact this.1
theorem may_in64 {m : Me} (h : mayM m = true) : In64 m.id := by
  rw [mayM_eq] at h
  simp only [Bool.and_eq_true, decide_eq_true_eq] at h
  unfold In64; omega
theorem app_none {ts : List Me} {s n : Int} {d : List Int} {add : List Me} {s' n' : Int} (h : errV ts s n = 0) (hd : dropIds d (idsM ts) = none) : appM ts s n d add s' n' = ([], 71) := by
  unfold appM
  rw [if_pos (errV_zero.1 h), drops_ids ts (chk_nodup h), hd]
  rfl
theorem app_low {ts : List Me} {s n : Int} {d : List Int} {add : List Me} {s' n' : Int} {r : List Int} (h : errV ts s n = 0) (hd : dropIds d (idsM ts) = some r) (hr : s' < s ∨ n' < n) : appM ts s n d add s' n' = ([], 4) := by
  unfold appM
  rw [if_pos (errV_zero.1 h), drops_ids ts (chk_nodup h), hd]
  simp only [Option.map_some]
  rw [if_pos hr]
theorem app_last {ts l' : List Me} {s n : Int} {d : List Int} {add : List Me} {s' n' : Int} {r : List Int} (h : errV ts s n = 0) (hd : dropIds d (idsM ts) = some r) (hr : ¬ (s' < s ∨ n' < n)) (hp : l'.Perm (ts.filter (keepM r) ++ add)) (hs : SrtM l') :
    appM ts s n d add s' n' = if errV l' s' n' = 0 then (l', 0) else ([], 9) := by
  have hl : SrtM (ts.filter (keepM r)) := (chk_srt (chkV_all (errV_zero.1 h))).filter _
  obtain ⟨e1, e2⟩ := app_same (s := s') (n := n') hp hs hl
  unfold appM
  rw [if_pos (errV_zero.1 h), drops_ids ts (chk_nodup h), hd]
  simp only [Option.map_some]
  rw [if_neg hr]
  by_cases ha : 256 < add.length
  · rw [if_pos ha, if_neg]
    intro q
    have h1 := chk_len q
    rw [hp.length_eq, List.length_append] at h1
    omega
  · rw [if_neg ha]
    by_cases q : errV l' s' n' = 0
    · rw [if_pos q, e2 q, if_pos]
      rw [← e2 q]
      exact errV_zero.1 q
    · rw [if_neg q, if_neg]
      intro r2
      exact q (by rw [e1]; exact errV_zero.2 r2)
end Go.Proofs.YtnchjlimkgbfpaaGreatDoor

namespace Go.Proofs.YtnchjlimkgbfpaaGreatDoor
open Go.RowKit
set_option linter.unusedVariables false
set_option linter.unusedSimpArgs false
set_option maxRecDepth 20000
theorem oct5 {n : Int} (h0 : 0 ≤ n) (h1 : n ≤ 34359738367) : (octets n).length ≤ 5 := by
  have := (octets_form n h0 (by omega)).size
  rcases size_cases n h0 (by omega) with q | q | q | q | q | q | q | q | q <;> omega
theorem oct2 {n : Int} (h0 : 0 ≤ n) (h1 : n ≤ 16383) : (octets n).length ≤ 2 := by
  have := (octets_form n h0 (by omega)).size
  rcases size_cases n h0 (by omega) with q | q | q | q | q | q | q | q | q <;> omega
theorem oct1 {n : Int} (h0 : 0 ≤ n) (h1 : n ≤ 127) : (octets n).length ≤ 1 := by
  have := (octets_form n h0 (by omega)).size
  rcases size_cases n h0 (by omega) with q | q | q | q | q | q | q | q | q <;> omega
theorem oct9 {n : Int} (h0 : 0 ≤ n) (h1 : n ≤ 18446744073709551615) : (octets n).length ≤ 9 := by
  have := (octets_form n h0 h1).size
  rcases size_cases n h0 h1 with q | q | q | q | q | q | q | q | q <;> omega
theorem may_nums {m : Me} (h : mayM m = true) : (1 ≤ m.id ∧ m.id ≤ 2147483647) ∧ (0 ≤ m.lvl ∧ m.lvl ≤ 3) ∧ (1 ≤ m.cnt ∧ m.cnt ≤ 4096) ∧ m.low.size ≤ 96 ∧ m.high.size ≤ 96 := by
  unfold mayM keyM at h
  simp only [Bool.and_eq_true, decide_eq_true_eq] at h
  omega
theorem may_metE {m : Me} (h : mayM m = true) : metE m = true := by
  have := may_nums h
  rw [metE_iff]
  omega
theorem metO_may {m : Me} (h : mayM m = true) : (metO m).length ≤ 202 := by
  have q := may_nums h
  unfold metO txtE
  simp only [List.length_append]
  have a1 := oct5 (n := m.id) (by omega) (by omega)
  have a2 := oct1 (n := m.lvl) (by omega) (by omega)
  have a3 := oct2 (n := m.cnt) (by omega) (by omega)
  have a4 := oct1 (n := (m.low.size : Int)) (by omega) (by omega)
  have a5 := oct1 (n := (m.high.size : Int)) (by omega) (by omega)
  have a6 : (nums m.low).length = m.low.size := nums_length _
  have a7 : (nums m.high).length = m.high.size := nums_length _
  omega
theorem metsO_may : ∀ l : List Me, (∀ m ∈ l, mayM m = true) → (metsO l).length ≤ 202 * l.length
  | [], _ => by simp [metsO]
  | x :: t, h => by
    have h1 := metsO_may t (fun m hm => h m (List.mem_cons_of_mem _ hm))
    have h2 := metO_may (h x List.mem_cons_self)
    simp only [metsO, List.length_append, List.length_cons]
    omega
theorem idsO_may : ∀ l : List Int, (∀ i ∈ l, 1 ≤ i ∧ i ≤ 2147483647) → (idsO l).length ≤ 5 * l.length
  | [], _ => by simp [idsO]
  | x :: t, h => by
    have h1 := idsO_may t (fun m hm => h m (List.mem_cons_of_mem _ hm))
    have h2 := h x List.mem_cons_self
    have h3 := oct5 (n := x) (by omega) (by omega)
    simp only [idsO, List.length_append, List.length_cons]
    omega
theorem edO_may {sq nx : Int} {dr : List Int} {ad : List Me} (h0 : 0 ≤ sq ∧ sq ≤ 1099511627776) (h1 : 0 ≤ nx ∧ nx ≤ 1099511627776) (h2 : dr.length ≤ 256) (h3 : ad.length ≤ 256) (h4 : ∀ i ∈ dr, 1 ≤ i ∧ i ≤ 2147483647) (h5 : ∀ m ∈ ad, mayM m = true) : (edO sq nx dr ad).length ≤ 53028 := by
  unfold edO
  simp only [List.length_append]
  have a1 := oct9 (n := sq) (by omega) (by omega)
  have a2 := oct9 (n := nx) (by omega) (by omega)
  have a3 := oct9 (n := (dr.length : Int)) (by omega) (by omega)
  have a4 := oct9 (n := (ad.length : Int)) (by omega) (by omega)
  have a5 := idsO_may dr h4
  have a6 := metsO_may ad h5
  omega
theorem idsO_octet : ∀ l : List Int, (∀ i ∈ l, numE i = true) → OctA (idsO l)
  | [], _ => by intro y hy; cases hy
  | x :: t, h => by
    intro y hy
    rw [idsO] at hy
    rcases List.mem_append.1 hy with q | q
    · have := numE_iff.1 (h x List.mem_cons_self)
      exact (octets_form x this.1 (by omega)).octet y q
    · exact idsO_octet t (fun m hm => h m (List.mem_cons_of_mem _ hm)) y q
theorem txtE_octet (s : ByteArray) (h : s.size ≤ 96) : OctA (txtE s) := by
  intro y hy
  unfold txtE at hy
  rcases List.mem_append.1 hy with q | q
  · exact (octets_form (s.size : Int) (by omega) (by omega)).octet y q
  · exact nums_octet s y q
theorem metO_octet {m : Me} (h : metE m = true) : OctA (metO m) := by
  have q := metE_iff.1 h
  intro y hy
  unfold metO at hy
  simp only [List.mem_append] at hy
  rcases hy with p | p | p | p | p
  · exact (octets_form m.id (by omega) (by omega)).octet y p
  · exact (octets_form m.lvl (by omega) (by omega)).octet y p
  · exact (octets_form m.cnt (by omega) (by omega)).octet y p
  · exact txtE_octet m.low (by omega) y p
  · exact txtE_octet m.high (by omega) y p
theorem metsO_octet : ∀ l : List Me, (∀ m ∈ l, metE m = true) → OctA (metsO l)
  | [], _ => by intro y hy; cases hy
  | x :: t, h => by
    intro y hy
    rw [metsO] at hy
    rcases List.mem_append.1 hy with q | q
    · exact metO_octet (h x List.mem_cons_self) y q
    · exact metsO_octet t (fun m hm => h m (List.mem_cons_of_mem _ hm)) y q
theorem edO_octet {sq nx : Int} {dr : List Int} {ad : List Me} (h : (encE sq nx dr ad).2 = 0) : OctA (edO sq nx dr ad) := by
  obtain ⟨h1, h2, h3, h4, h5, h6⟩ := encE_zero.1 h
  have h3 := numE_iff.1 h3
  have h4 := numE_iff.1 h4
  intro y hy
  unfold edO at hy
  simp only [List.mem_append] at hy
  rcases hy with p | p | p | p | p | p
  · exact (octets_form sq (by omega) (by omega)).octet y p
  · exact (octets_form nx (by omega) (by omega)).octet y p
  · exact (octets_form (dr.length : Int) (by omega) (by omega)).octet y p
  · exact idsO_octet dr h5 y p
  · exact (octets_form (ad.length : Int) (by omega) (by omega)).octet y p
  · exact metsO_octet ad h6 y p
theorem chk_ok {ts : List Me} {s n : Int} (h : chkV ts s n = true) : ts.length ≤ 256 ∧ (1 ≤ n ∧ n ≤ 2147483647) ∧ (0 ≤ s ∧ s ≤ 1099511627776) ∧ ∀ m ∈ ts, mayM m = true := by
  unfold chkV at h
  rw [Bool.and_eq_true, decide_eq_true_eq] at h
  refine ⟨h.1.1, ⟨h.1.2.1, h.1.2.2.1⟩, ⟨h.1.2.2.2.1, h.1.2.2.2.2⟩, fun m hm => ?_⟩
  obtain ⟨k, hk⟩ := List.getElem?_of_mem hm
  have := allM_at n ts [] h.2 k m hk
  unfold okM at this
  simp only [Bool.and_eq_true] at this
  exact this.1
theorem dropM_mem {i : Int} {ts : List Me} {m : Me} (h : m ∈ dropM i ts) : m ∈ ts := (List.mem_filter.1 h).1
theorem dropM_id {i : Int} {ts : List Me} (h : ¬ (dropM i ts).length = ts.length) : (∃ m ∈ ts, m.id = i) ∧ (dropM i ts).length < ts.length := by
  have hle : (dropM i ts).length ≤ ts.length := List.length_filter_le _ _
  refine ⟨?_, by omega⟩
  by_cases q : ∃ m ∈ ts, m.id = i
  · exact q
  · refine absurd ?_ h
    have : dropM i ts = ts := List.filter_eq_self.2 fun m hm => by
      rw [decide_eq_true_eq]
      exact fun e => q ⟨m, hm, e⟩
    rw [this]
theorem drops_ok : ∀ (dr : List Int) (ts l : List Me), dropsM dr ts = some l → dr.length + l.length ≤ ts.length ∧ (∀ i ∈ dr, ∃ m ∈ ts, m.id = i) ∧ ∀ m ∈ l, m ∈ ts
  | [], ts, l, h => by
    simp only [dropsM, Option.some.injEq] at h
    subst h
    exact ⟨by simp, by simp, fun m hm => hm⟩
  | i :: r, ts, l, h => by
    rw [dropsM] at h
    by_cases q : (dropM i ts).length = ts.length
    · rw [if_pos q] at h; cases h
    · rw [if_neg q] at h
      obtain ⟨h1, h2, h3⟩ := drops_ok r (dropM i ts) l h
      obtain ⟨q1, q2⟩ := dropM_id q
      refine ⟨by simp only [List.length_cons]; omega, ?_, fun m hm => dropM_mem (h3 m hm)⟩
      intro j hj
      rcases List.mem_cons.1 hj with rfl | hj
      · exact q1
      · obtain ⟨m, hm, e⟩ := h2 j hj
        exact ⟨m, dropM_mem hm, e⟩
theorem app_ok {ts : List Me} {sq nx : Int} {dr : List Int} {ad : List Me} {sq2 nx2 : Int} (h : (appM ts sq nx dr ad sq2 nx2).2 = 0) :
    chkV ts sq nx = true ∧ chkV (appM ts sq nx dr ad sq2 nx2).1 sq2 nx2 = true ∧ (encE sq2 nx2 dr ad).2 = 0 ∧ (edO sq2 nx2 dr ad).length ≤ 53028 := by
  unfold appM at h ⊢
  by_cases c1 : chkV ts sq nx = true
  · rw [if_pos c1] at h ⊢
    cases hd : dropsM dr ts with
    | none => rw [hd] at h; simp at h
    | some l =>
      rw [hd] at h
      simp only at h ⊢
      by_cases c2 : sq2 < sq ∨ nx2 < nx
      · rw [if_pos c2] at h; simp at h
      · rw [if_neg c2] at h ⊢
        by_cases c3 : 256 < ad.length
        · rw [if_pos c3] at h; simp at h
        · rw [if_neg c3] at h ⊢
          by_cases c4 : chkV (putsM ad l) sq2 nx2 = true
          · rw [if_pos c4]
            obtain ⟨d1, d2, d3⟩ := drops_ok dr ts l hd
            obtain ⟨a1, a2, a3, a4⟩ := chk_ok c1
            obtain ⟨b1, b2, b3, b4⟩ := chk_ok c4
            have hadm : ∀ m ∈ ad, mayM m = true := fun m hm => b4 m ((putsM_perm ad l).mem_iff.2 (List.mem_append_right _ hm))
            have hdm : ∀ i ∈ dr, 1 ≤ i ∧ i ≤ 2147483647 := by
              intro i hi
              obtain ⟨m, hm, e⟩ := d2 i hi
              have := may_nums (a4 m hm)
              omega
            refine ⟨c1, c4, encE_zero.2 ⟨by omega, by omega, numE_iff.2 (by omega), numE_iff.2 (by omega), fun i hi => numE_iff.2 (by have := hdm i hi; omega), fun m hm => may_metE (hadm m hm)⟩, edO_may (by omega) (by omega) (by omega) (by omega) hdm hadm⟩
          · rw [if_neg c4] at h; simp at h
  · rw [if_neg c1] at h; simp at h
theorem whole_enc {ts : List Me} {sq nx : Int} (h : chkV ts sq nx = true) : (encE sq nx [] ts).2 = 0 ∧ (edO sq nx [] ts).length ≤ 53028 := by
  have := app_ok (ts := []) (sq := 0) (nx := 1) (dr := []) (ad := ts) (sq2 := sq) (nx2 := nx) (by rw [app_whole h])
  exact ⟨this.2.2.1, this.2.2.2⟩
def edF (sq nx : Int) (dr : List Int) (ad : List Me) : List Int := frameOf 5 (edO sq nx dr ad)
def ptrF (id : Int) : List Int := frameOf 4 (octets id)
theorem frame_small {k : Int} {l : List Int} (h : l.length ≤ 65536) : (frameOf k l).length ≤ l.length + 14 := by
  rw [frame_len]
  have := oct9 (n := (l.length : Int)) (by omega) (by omega)
  omega
theorem edF_ok {sq nx : Int} {dr : List Int} {ad : List Me} (h : (encE sq nx dr ad).2 = 0) (hl : (edO sq nx dr ad).length ≤ 53028) : OkRec (5, edO sq nx dr ad) := ⟨by simp, by simp only; omega, edO_octet h⟩
theorem ptr_oct {id : Int} (h : 1 ≤ id ∧ id ≤ 2147483647) : (octets id).length ≤ 9 ∧ ∀ x ∈ octets id, 0 ≤ x ∧ x ≤ 255 := ⟨oct9 (by omega) (by omega), (octets_form id (by omega) (by omega)).octet⟩
def curOf (b : List Int) : Option Int :=
  if (fget b).2.2.2 = 0 ∧ (fget b).2.2.1 = (b.length : Int) ∧ (fget b).1 = 4 ∧ (getOf (fget b).2.1).2.2 = 0 ∧ (getOf (fget b).2.1).2.1 = ((fget b).2.1.length : Int) ∧ 1 ≤ (getOf (fget b).2.1).1 ∧ (getOf (fget b).2.1).1 ≤ 2147483647 then some (getOf (fget b).2.1).1 else none
theorem cur_ptr {id : Int} (h : 1 ≤ id ∧ id ≤ 2147483647) : curOf (ptrF id) = some id := by
  have ho := ptr_oct h
  have e1 := fget_back 4 (octets id) [] (by omega)
  rw [List.append_nil] at e1
  have e2 := getRet_inj (getOf_back id (by omega) (by omega) [])
  rw [List.append_nil] at e2
  have e3 := (octets_form id (by omega) (by omega)).size
  unfold curOf ptrF
  rw [e1]
  simp only
  rw [e2]
  simp only
  rw [if_pos]
  exact ⟨trivial, trivial, trivial, trivial, e3.symm, h.1, h.2⟩
abbrev Vn := List Me × Int × Int
def stepM (v : Vn) (k : Int) (d : List Int) : Option Vn :=
  if k = 5 then (match decE d with
    | .error _ => none
    | .ok (sq, nx, dr, ad) => if (appM v.1 v.2.1 v.2.2 dr ad sq nx).2 = 0 then some ((appM v.1 v.2.1 v.2.2 dr ad sq nx).1, sq, nx) else none)
  else none
def foldM : List (Int × List Int × Nat) → Vn → Option Vn
  | [], v => some v
  | r :: l, v => match stepM v r.1 r.2.1 with
    | none => none
    | some u => foldM l u
def madeM (b : List Int) : Option Vn := if scanOf b = [] then none else foldM (scanOf b) ([], 0, 1)
theorem step_ed {v : Vn} {sq nx : Int} {dr : List Int} {ad : List Me} (h : (appM v.1 v.2.1 v.2.2 dr ad sq nx).2 = 0) : stepM v 5 (edO sq nx dr ad) = some ((appM v.1 v.2.1 v.2.2 dr ad sq nx).1, sq, nx) := by
  have q := app_ok h
  have e := dec_encE q.2.2.1
  rw [encE_good q.2.2.1] at e
  unfold stepM
  rw [if_pos rfl, e]
  simp only
  rw [if_pos h]
theorem made_note {ts : List Me} {sq nx : Int} (hc : chkV ts sq nx = true) {sq2 nx2 : Int} {dr : List Int} {ad : List Me} (h : (appM ts sq nx dr ad sq2 nx2).2 = 0) (m : Nat) (hm : m ≤ (edF sq2 nx2 dr ad).length) :
    madeM (edF sq nx [] ts ++ (edF sq2 nx2 dr ad).take m) = if m = (edF sq2 nx2 dr ad).length then some ((appM ts sq nx dr ad sq2 nx2).1, sq2, nx2) else some (ts, sq, nx) := by
  have q := whole_enc hc
  have q2 := app_ok h
  have hok : ∀ g ∈ [((5 : Int), edO sq nx [] ts), (5, edO sq2 nx2 dr ad)], OkRec g := by
    intro g hg
    simp only [List.mem_cons, List.mem_nil_iff, or_false] at hg
    rcases hg with rfl | rfl
    · exact edF_ok q.1 q.2
    · exact edF_ok q2.2.2.1 q2.2.2.2
  have ec : catF [((5 : Int), edO sq nx [] ts), (5, edO sq2 nx2 dr ad)] = edF sq nx [] ts ++ edF sq2 nx2 dr ad := by simp [catF, edF]
  have e := scanOf_cut _ hok ((edF sq nx [] ts).length + m) (by rw [ec, List.length_append]; omega)
  rw [ec, List.take_append, List.take_of_length_le (by omega), Nat.add_sub_cancel_left] at e
  have hs1 := step_ed (v := ([], 0, 1)) (sq := sq) (nx := nx) (dr := []) (ad := ts) (by rw [app_whole hc])
  rw [app_whole hc] at hs1
  have hs2 := step_ed (v := (ts, sq, nx)) h
  unfold madeM
  rw [e]
  by_cases c : m = (edF sq2 nx2 dr ad).length
  · have hcnt : cntF [((5 : Int), edO sq nx [] ts), (5, edO sq2 nx2 dr ad)] ((edF sq nx [] ts).length + m) = 2 := by
      unfold edF at *
      simp only [cntF]
      rw [if_pos (by omega), if_pos (by omega)]
    rw [hcnt, if_pos c, if_neg (by simp)]
    simp only [List.take, List.map_cons, List.map_nil, trip, foldM]
    rw [hs1]
    simp only
    rw [hs2]
  · have hcnt : cntF [((5 : Int), edO sq nx [] ts), (5, edO sq2 nx2 dr ad)] ((edF sq nx [] ts).length + m) = 1 := by
      unfold edF at *
      simp only [cntF]
      rw [if_pos (by omega), if_neg (by omega)]
    rw [hcnt, if_neg c, if_neg (by simp)]
    simp only [List.take, List.map_cons, List.map_nil, trip, foldM]
    rw [hs1]
def loadP (s : St) : Vn × Int × Int :=
  if (readP s curL).2 = 0 then (match curOf (readP s curL).1 with
    | none => (([], 0, 0), 0, 21)
    | some id => if (readP s (nameN 109 id).1).2 = 0 then (match madeM (readP s (nameN 109 id).1).1 with
      | none => (([], 0, 0), 0, 21)
      | some v => (v, id, 0))
      else (([], 0, 0), 0, (readP s (nameN 109 id).1).2))
  else (([], 0, 0), 0, (readP s curL).2)
theorem load_good {s : St} {id : Int} (hi : 1 ≤ id ∧ id ≤ 2147483647) {b : List Int} {v : Vn} (h1 : readP s curL = (ptrF id, 0)) (h2 : readP s (nameN 109 id).1 = (b, 0)) (h3 : madeM b = some v) : loadP s = (v, id, 0) := by
  unfold loadP
  rw [h1]
  simp only [if_true]
  rw [cur_ptr hi]
  simp only
  rw [h2]
  simp only [if_true]
  rw [h3]
end Go.Proofs.YtnchjlimkgbfpaaGreatDoor

namespace Go.Proofs.YtnchjlimkgbfpaaGreatDoor
open Go.RowKit
set_option linter.unusedVariables false
set_option maxRecDepth 20000
set_option linter.unusedSimpArgs false
theorem not_any (n : Int) (w : World) : Calls Tryz.prog 186 #[.int .i64 n] w fun e w' => e = .returned (.bool (!numE n)) ∧ w' = w := by
  have H := hid (within_any n 0 1099511627776 w)
  have e : decide (0 ≤ n ∧ n ≤ 1099511627776) = numE n := rfl
  rw [e] at H
  clear e
  generalize numE n = b at *
  go_enter Tryz.func186, Tryz.ntmps186
  go_wp2_with fail
  refine H.out.mono ?_
  rintro e w' ⟨rfl, rfl⟩
  go_wp2_with fail
  go_ret
  exact ⟨rfl, rfl⟩
theorem all_goes {l : List Int} {k : Nat} {x : Int} (h : (l.take k).all numE = true) (hx : l[k]? = some x) (hn : numE x = true) : (l.take (k + 1)).all numE = true := by
  rw [List.take_add_one, hx, List.all_append, h]
  simp [hn]
theorem all_not {l : List Int} {k : Nat} {x : Int} (hx : l[k]? = some x) (hn : numE x = false) : l.all numE = false := by
  rw [List.all_eq_false]
  exact ⟨x, List.mem_of_getElem? hx, by simp [hn]⟩
set_option maxRecDepth 100000 in
theorem index83_any (l : List Int) (v : Value) (w : World) (hv : IntsR w v l) :
    Calls Tryz.prog 210 #[v, .func (.func 186) #[] #[]] w fun e w' => (∃ r : Int, e = .returned (.int .i64 r) ∧ Hid (decide (0 ≤ r) = !(l.all numE))) ∧ w' = w := by
  have HV : Hid (IntsR w v l) := hv
  obtain ⟨a1, c1, rfl, g1, m1⟩ := hv.len
  clear hv
  have hl63 : (l.length : Int) ≤ 9223372036854775807 := by unfold maxLen at m1; omega
  clear g1 m1
  go_enter Tryz.func210, Tryz.ntmps210
  go_wp2_with fail
  go_loopw [8] (fun i wr => ∃ k : Nat, k ≤ l.length ∧ i = .int .i64 k ∧ Hid ((l.take k).all numE = true) ∧ wr = w) (fun i _ => l.length - (intOf i).toNat)
  case atStart => exact ⟨0, Nat.zero_le _, rfl, by simp [Hid], rfl⟩
  case round =>
    obtain ⟨k, hk, rfl, HA, rfl⟩ := hrel
    by_cases hlt : k < l.length
    · have hlt' : (k : Int) < (l.length : Int) := by omega
      obtain ⟨b, off, cap, x, e, hx, x0⟩ := HV.out.at k hlt
      simp at e
      obtain ⟨rfl, rfl⟩ := e
      have HX : Hid (l[k]? = some x) := hx
      clear hx
      have HN := hid (not_any x wr)
      cases hp : numE x
      · have HF := hid (all_not HX.out hp)
        rw [hp] at HN
        have hk0 : (0 : Int) ≤ (k : Int) := by omega
        go_wp2_with fail
        refine HN.out.mono ?_
        rintro e w' ⟨rfl, rfl⟩
        go_wp2_with fail
        go_ret
        exact ⟨⟨k, rfl, by rw [HF.out]; simp [Hid]⟩, rfl⟩
      · have HA' := hid (all_goes HA.out HX.out hp)
        rw [hp] at HN
        go_wp2_with fail
        refine HN.out.mono ?_
        rintro e w' ⟨rfl, rfl⟩
        go_wp2_with fail
        exact ⟨⟨k + 1, by omega, by go_num, HA', by first | rfl | trivial⟩, by simp [intOf]; omega⟩
    · have hlt' : ¬ (k : Int) < (l.length : Int) := by omega
      obtain rfl : k = l.length := by omega
      rw [List.take_length] at HA
      go_wp2_with fail
      go_ret
      exact ⟨⟨-1, rfl, by rw [HA.out]; simp [Hid]⟩, rfl⟩
theorem contains_any (l : List Int) (v : Value) (w : World) (hv : IntsR w v l) :
    Calls Tryz.prog 185 #[v, .func (.func 186) #[] #[]] w fun e w' => e = .returned (.bool (!(l.all numE))) ∧ w' = w := by
  have H := hid (index83_any l v w hv)
  clear hv
  generalize l.all numE = b at *
  go_enter Tryz.func185, Tryz.ntmps185
  go_wp2_with fail
  refine H.out.mono ?_
  rintro e w' ⟨⟨r, rfl, hr⟩, rfl⟩
  by_cases h0 : 0 ≤ r
  · have hb : (!b) = true := by rw [← hr.out]; simp [h0]
    obtain rfl : b = false := by simpa using hb
    clear hb hr
    go_wp2_with fail
    go_ret
    exact ⟨rfl, rfl⟩
  · have hb : (!b) = false := by rw [← hr.out]; simp [h0]
    obtain rfl : b = true := by simpa using hb
    clear hb hr
    have h1 : r < 0 := by omega
    go_wp2_with fail
    go_ret
    exact ⟨by first | rfl | (simp [h0]; done) | (simp [h1]; done) | (simp; omega), rfl⟩
theorem writable_any (l : List Int) (v : Value) (w : World) (hv : IntsR w v l) :
    Calls Tryz.prog 155 #[v] w fun e w' => e = .returned (.bool (l.all numE)) ∧ w' = w := by
  have H := hid (contains_any l v w hv)
  clear hv
  generalize l.all numE = b at *
  go_enter Tryz.func155, Tryz.ntmps155
  go_wp2_with fail
  refine H.out.mono ?_
  rintro e w' ⟨rfl, rfl⟩
  go_wp2_with fail
  go_ret
  cases b <;> exact ⟨rfl, rfl⟩
end Go.Proofs.YtnchjlimkgbfpaaGreatDoor
