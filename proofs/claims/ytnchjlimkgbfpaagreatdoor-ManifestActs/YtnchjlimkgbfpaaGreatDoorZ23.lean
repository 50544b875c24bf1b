/- The texts OMath, NWr, NChk, in this order. -/
import Derived.Test.YtnchjlimkgbfpaaGreatDoorZ14
import Derived.Test.YtnchjlimkgbfpaaGreatDoorZ20
import Derived.Test.YtnchjlimkgbfpaaGreatDoorZ22
import Derived.Test.YtnchjlimkgbfpaaGreatDoorZ02
import Derived.Test.YtnchjlimkgbfpaaGreatDoorZ21

namespace Go.Proofs.YtnchjlimkgbfpaaGreatDoor
open Go.RowKit
set_option linter.unusedVariables false
set_option linter.unusedSimpArgs false
set_option maxRecDepth 20000
theorem oct5 {n : Int} (h0 : 0 ≤ n) (h1 : n ≤ 34359738367) : (octets n).length ≤ 5 := by
  have := (octets_form n h0 (by omega)).size
  rcases size_cases n h0 (by omega) with q | q | q | q | q | q | q | q | q <;> omega
theorem oct2 {n : Int} (h0 : 0 ≤ n) (h1 : n ≤ 16383) : (octets n).length ≤ 2 := by
  have := (octets_form n h0 (by omega)).size
  rcases size_cases n h0 (by omega) with q | q | q | q | q | q | q | q | q <;> omega
theorem oct1 {n : Int} (h0 : 0 ≤ n) (h1 : n ≤ 127) : (octets n).length ≤ 1 := by
  have := (octets_form n h0 (by omega)).size
  rcases size_cases n h0 (by omega) with q | q | q | q | q | q | q | q | q <;> omega
theorem oct9 {n : Int} (h0 : 0 ≤ n) (h1 : n ≤ 18446744073709551615) : (octets n).length ≤ 9 := by
  have := (octets_form n h0 h1).size
  rcases size_cases n h0 h1 with q | q | q | q | q | q | q | q | q <;> omega
theorem may_nums {m : Me} (h : mayM m = true) : (1 ≤ m.id ∧ m.id ≤ 2147483647) ∧ (0 ≤ m.lvl ∧ m.lvl ≤ 3) ∧ (1 ≤ m.cnt ∧ m.cnt ≤ 4096) ∧ m.low.size ≤ 96 ∧ m.high.size ≤ 96 := by
  unfold mayM keyM at h
  simp only [Bool.and_eq_true, decide_eq_true_eq] at h
  omega
theorem may_metE {m : Me} (h : mayM m = true) : metE m = true := by
  have := may_nums h
  rw [metE_iff]
  omega
theorem metO_may {m : Me} (h : mayM m = true) : (metO m).length ≤ 202 := by
  have q := may_nums h
  unfold metO txtE
  simp only [List.length_append]
  have a1 := oct5 (n := m.id) (by omega) (by omega)
  have a2 := oct1 (n := m.lvl) (by omega) (by omega)
  have a3 := oct2 (n := m.cnt) (by omega) (by omega)
  have a4 := oct1 (n := (m.low.size : Int)) (by omega) (by omega)
  have a5 := oct1 (n := (m.high.size : Int)) (by omega) (by omega)
  have a6 : (nums m.low).length = m.low.size := nums_length _
  have a7 : (nums m.high).length = m.high.size := nums_length _
  omega
theorem metsO_may : ∀ l : List Me, (∀ m ∈ l, mayM m = true) → (metsO l).length ≤ 202 * l.length
  | [], _ => by simp [metsO]
  | x :: t, h => by
    have h1 := metsO_may t (fun m hm => h m (List.mem_cons_of_mem _ hm))
    have h2 := metO_may (h x List.mem_cons_self)
    simp only [metsO, List.length_append, List.length_cons]
    omega
theorem idsO_may : ∀ l : List Int, (∀ i ∈ l, 1 ≤ i ∧ i ≤ 2147483647) → (idsO l).length ≤ 5 * l.length
  | [], _ => by simp [idsO]
  | x :: t, h => by
    have h1 := idsO_may t (fun m hm => h m (List.mem_cons_of_mem _ hm))
    have h2 := h x List.mem_cons_self
    have h3 := oct5 (n := x) (by omega) (by omega)
    simp only [idsO, List.length_append, List.length_cons]
    omega
theorem edO_may {sq nx : Int} {dr : List Int} {ad : List Me} (h0 : 0 ≤ sq ∧ sq ≤ 1099511627776) (h1 : 0 ≤ nx ∧ nx ≤ 1099511627776) (h2 : dr.length ≤ 256) (h3 : ad.length ≤ 256) (h4 : ∀ i ∈ dr, 1 ≤ i ∧ i ≤ 2147483647) (h5 : ∀ m ∈ ad, mayM m = true) : (edO sq nx dr ad).length ≤ 53028 := by
  unfold edO
  simp only [List.length_append]
  have a1 := oct9 (n := sq) (by omega) (by omega)
  have a2 := oct9 (n := nx) (by omega) (by omega)
  have a3 := oct9 (n := (dr.length : Int)) (by omega) (by omega)
  have a4 := oct9 (n := (ad.length : Int)) (by omega) (by omega)
  have a5 := idsO_may dr h4
  have a6 := metsO_may ad h5
  omega
theorem idsO_octet : ∀ l : List Int, (∀ i ∈ l, numE i = true) → OctA (idsO l)
  | [], _ => by intro y hy; cases hy
  | x :: t, h => by
    intro y hy
    rw [idsO] at hy
    rcases List.mem_append.1 hy with q | q
    · have := numE_iff.1 (h x List.mem_cons_self)
      exact (octets_form x this.1 (by omega)).octet y q
    · exact idsO_octet t (fun m hm => h m (List.mem_cons_of_mem _ hm)) y q
theorem txtE_octet (s : ByteArray) (h : s.size ≤ 96) : OctA (txtE s) := by
  intro y hy
  unfold txtE at hy
  rcases List.mem_append.1 hy with q | q
  · exact (octets_form (s.size : Int) (by omega) (by omega)).octet y q
  · exact nums_octet s y q
theorem metO_octet {m : Me} (h : metE m = true) : OctA (metO m) := by
  have q := metE_iff.1 h
  intro y hy
  unfold metO at hy
  simp only [List.mem_append] at hy
  rcases hy with p | p | p | p | p
  · exact (octets_form m.id (by omega) (by omega)).octet y p
  · exact (octets_form m.lvl (by omega) (by omega)).octet y p
  · exact (octets_form m.cnt (by omega) (by omega)).octet y p
  · exact txtE_octet m.low (by omega) y p
  · exact txtE_octet m.high (by omega) y p
theorem metsO_octet : ∀ l : List Me, (∀ m ∈ l, metE m = true) → OctA (metsO l)
  | [], _ => by intro y hy; cases hy
  | x :: t, h => by
    intro y hy
    rw [metsO] at hy
    rcases List.mem_append.1 hy with q | q
    · exact metO_octet (h x List.mem_cons_self) y q
    · exact metsO_octet t (fun m hm => h m (List.mem_cons_of_mem _ hm)) y q
theorem edO_octet {sq nx : Int} {dr : List Int} {ad : List Me} (h : (encE sq nx dr ad).2 = 0) : OctA (edO sq nx dr ad) := by
  obtain ⟨h1, h2, h3, h4, h5, h6⟩ := encE_zero.1 h
  have h3 := numE_iff.1 h3
  have h4 := numE_iff.1 h4
  intro y hy
  unfold edO at hy
  simp only [List.mem_append] at hy
  rcases hy with p | p | p | p | p | p
  · exact (octets_form sq (by omega) (by omega)).octet y p
  · exact (octets_form nx (by omega) (by omega)).octet y p
  · exact (octets_form (dr.length : Int) (by omega) (by omega)).octet y p
  · exact idsO_octet dr h5 y p
  · exact (octets_form (ad.length : Int) (by omega) (by omega)).octet y p
  · exact metsO_octet ad h6 y p
theorem chk_ok {ts : List Me} {s n : Int} (h : chkV ts s n = true) : ts.length ≤ 256 ∧ (1 ≤ n ∧ n ≤ 2147483647) ∧ (0 ≤ s ∧ s ≤ 1099511627776) ∧ ∀ m ∈ ts, mayM m = true := by
  unfold chkV at h
  rw [Bool.and_eq_true, decide_eq_true_eq] at h
  refine ⟨h.1.1, ⟨h.1.2.1, h.1.2.2.1⟩, ⟨h.1.2.2.2.1, h.1.2.2.2.2⟩, fun m hm => ?_⟩
  obtain ⟨k, hk⟩ := List.getElem?_of_mem hm
  have := allM_at n ts [] h.2 k m hk
  unfold okM at this
  simp only [Bool.and_eq_true] at this
  exact this.1
theorem dropM_mem {i : Int} {ts : List Me} {m : Me} (h : m ∈ dropM i ts) : m ∈ ts := (List.mem_filter.1 h).1
theorem dropM_id {i : Int} {ts : List Me} (h : ¬ (dropM i ts).length = ts.length) : (∃ m ∈ ts, m.id = i) ∧ (dropM i ts).length < ts.length := by
  have hle : (dropM i ts).length ≤ ts.length := List.length_filter_le _ _
  refine ⟨?_, by omega⟩
  by_cases q : ∃ m ∈ ts, m.id = i
  · exact q
  · refine absurd ?_ h
    have : dropM i ts = ts := List.filter_eq_self.2 fun m hm => by
      rw [decide_eq_true_eq]
      exact fun e => q ⟨m, hm, e⟩
    rw [this]
theorem drops_ok : ∀ (dr : List Int) (ts l : List Me), dropsM dr ts = some l → dr.length + l.length ≤ ts.length ∧ (∀ i ∈ dr, ∃ m ∈ ts, m.id = i) ∧ ∀ m ∈ l, m ∈ ts
  | [], ts, l, h => by
    simp only [dropsM, Option.some.injEq] at h
    subst h
    exact ⟨by simp, by simp, fun m hm => hm⟩
  | i :: r, ts, l, h => by
    rw [dropsM] at h
    by_cases q : (dropM i ts).length = ts.length
    · rw [if_pos q] at h; cases h
    · rw [if_neg q] at h
      obtain ⟨h1, h2, h3⟩ := drops_ok r (dropM i ts) l h
      obtain ⟨q1, q2⟩ := dropM_id q
      refine ⟨by simp only [List.length_cons]; omega, ?_, fun m hm => dropM_mem (h3 m hm)⟩
      intro j hj
      rcases List.mem_cons.1 hj with rfl | hj
      · exact q1
      · obtain ⟨m, hm, e⟩ := h2 j hj
        exact ⟨m, dropM_mem hm, e⟩
theorem app_ok {ts : List Me} {sq nx : Int} {dr : List Int} {ad : List Me} {sq2 nx2 : Int} (h : (appM ts sq nx dr ad sq2 nx2).2 = 0) :
    chkV ts sq nx = true ∧ chkV (appM ts sq nx dr ad sq2 nx2).1 sq2 nx2 = true ∧ (encE sq2 nx2 dr ad).2 = 0 ∧ (edO sq2 nx2 dr ad).length ≤ 53028 := by
  unfold appM at h ⊢
  by_cases c1 : chkV ts sq nx = true
  · rw [if_pos c1] at h ⊢
    cases hd : dropsM dr ts with
    | none => rw [hd] at h; simp at h
    | some l =>
      rw [hd] at h
      simp only at h ⊢
      by_cases c2 : sq2 < sq ∨ nx2 < nx
      · rw [if_pos c2] at h; simp at h
      · rw [if_neg c2] at h ⊢
        by_cases c3 : 256 < ad.length
        · rw [if_pos c3] at h; simp at h
        · rw [if_neg c3] at h ⊢
          by_cases c4 : chkV (putsM ad l) sq2 nx2 = true
          · rw [if_pos c4]
            obtain ⟨d1, d2, d3⟩ := drops_ok dr ts l hd
            obtain ⟨a1, a2, a3, a4⟩ := chk_ok c1
            obtain ⟨b1, b2, b3, b4⟩ := chk_ok c4
            have hadm : ∀ m ∈ ad, mayM m = true := fun m hm => b4 m ((putsM_perm ad l).mem_iff.2 (List.mem_append_right _ hm))
            have hdm : ∀ i ∈ dr, 1 ≤ i ∧ i ≤ 2147483647 := by
              intro i hi
              obtain ⟨m, hm, e⟩ := d2 i hi
              have := may_nums (a4 m hm)
              omega
            refine ⟨c1, c4, encE_zero.2 ⟨by omega, by omega, numE_iff.2 (by omega), numE_iff.2 (by omega), fun i hi => numE_iff.2 (by have := hdm i hi; omega), fun m hm => may_metE (hadm m hm)⟩, edO_may (by omega) (by omega) (by omega) (by omega) hdm hadm⟩
          · rw [if_neg c4] at h; simp at h
  · rw [if_neg c1] at h; simp at h
theorem whole_enc {ts : List Me} {sq nx : Int} (h : chkV ts sq nx = true) : (encE sq nx [] ts).2 = 0 ∧ (edO sq nx [] ts).length ≤ 53028 := by
  have := app_ok (ts := []) (sq := 0) (nx := 1) (dr := []) (ad := ts) (sq2 := sq) (nx2 := nx) (by rw [app_whole h])
  exact ⟨this.2.2.1, this.2.2.2⟩
def edF (sq nx : Int) (dr : List Int) (ad : List Me) : List Int := frameOf 5 (edO sq nx dr ad)
def ptrF (id : Int) : List Int := frameOf 4 (octets id)
theorem ptr_oct {id : Int} (h : 1 ≤ id ∧ id ≤ 2147483647) : (octets id).length ≤ 9 ∧ ∀ x ∈ octets id, 0 ≤ x ∧ x ≤ 255 := ⟨oct9 (by omega) (by omega), (octets_form id (by omega) (by omega)).octet⟩
end Go.Proofs.YtnchjlimkgbfpaaGreatDoor

namespace Go.Proofs.YtnchjlimkgbfpaaGreatDoor
open Go.RowKit
set_option linter.unusedVariables false
set_option maxRecDepth 20000
set_option linter.unusedSimpArgs false
theorem not_any (n : Int) (w : World) : Calls Tryz.prog 186 #[.int .i64 n] w fun e w' => e = .returned (.bool (!numE n)) ∧ w' = w := by
  have H := hid (within_any n 0 1099511627776 w)
  have e : decide (0 ≤ n ∧ n ≤ 1099511627776) = numE n := rfl
  rw [e] at H
  clear e
  generalize numE n = b at *
  go_enter Tryz.func186, Tryz.ntmps186
  go_wp2_with fail
  refine H.out.mono ?_
  rintro e w' ⟨rfl, rfl⟩
  go_wp2_with fail
  go_ret
  exact ⟨rfl, rfl⟩
theorem all_goes {l : List Int} {k : Nat} {x : Int} (h : (l.take k).all numE = true) (hx : l[k]? = some x) (hn : numE x = true) : (l.take (k + 1)).all numE = true := by
  rw [List.take_add_one, hx, List.all_append, h]
  simp [hn]
theorem all_not {l : List Int} {k : Nat} {x : Int} (hx : l[k]? = some x) (hn : numE x = false) : l.all numE = false := by
  rw [List.all_eq_false]
  exact ⟨x, List.mem_of_getElem? hx, by simp [hn]⟩
set_option maxRecDepth 100000 in
theorem index83_any (l : List Int) (v : Value) (w : World) (hv : IntsR w v l) :
    Calls Tryz.prog 210 #[v, .func (.func 186) #[] #[]] w fun e w' => (∃ r : Int, e = .returned (.int .i64 r) ∧ Hid (decide (0 ≤ r) = !(l.all numE))) ∧ w' = w := by
  have HV : Hid (IntsR w v l) := hv
  obtain ⟨a1, c1, rfl, g1, m1⟩ := hv.len
  clear hv
  have hl63 : (l.length : Int) ≤ 9223372036854775807 := by unfold maxLen at m1; omega
  clear g1 m1
  go_enter Tryz.func210, Tryz.ntmps210
  go_wp2_with fail
  go_loopw [8] (fun i wr => ∃ k : Nat, k ≤ l.length ∧ i = .int .i64 k ∧ Hid ((l.take k).all numE = true) ∧ wr = w) (fun i _ => l.length - (intOf i).toNat)
  case atStart => exact ⟨0, Nat.zero_le _, rfl, by simp [Hid], rfl⟩
  case round =>
    obtain ⟨k, hk, rfl, HA, rfl⟩ := hrel
    by_cases hlt : k < l.length
    · have hlt' : (k : Int) < (l.length : Int) := by omega
      obtain ⟨b, off, cap, x, e, hx, x0⟩ := HV.out.at k hlt
      simp at e
      obtain ⟨rfl, rfl⟩ := e
      have HX : Hid (l[k]? = some x) := hx
      clear hx
      have HN := hid (not_any x wr)
      cases hp : numE x
      · have HF := hid (all_not HX.out hp)
        rw [hp] at HN
        have hk0 : (0 : Int) ≤ (k : Int) := by omega
        go_wp2_with fail
        refine HN.out.mono ?_
        rintro e w' ⟨rfl, rfl⟩
        go_wp2_with fail
        go_ret
        exact ⟨⟨k, rfl, by rw [HF.out]; simp [Hid]⟩, rfl⟩
      · have HA' := hid (all_goes HA.out HX.out hp)
        rw [hp] at HN
        go_wp2_with fail
        refine HN.out.mono ?_
        rintro e w' ⟨rfl, rfl⟩
        go_wp2_with fail
        exact ⟨⟨k + 1, by omega, by go_num, HA', by first | rfl | trivial⟩, by simp [intOf]; omega⟩
    · have hlt' : ¬ (k : Int) < (l.length : Int) := by omega
      obtain rfl : k = l.length := by omega
      rw [List.take_length] at HA
      go_wp2_with fail
      go_ret
      exact ⟨⟨-1, rfl, by rw [HA.out]; simp [Hid]⟩, rfl⟩
theorem contains_any (l : List Int) (v : Value) (w : World) (hv : IntsR w v l) :
    Calls Tryz.prog 185 #[v, .func (.func 186) #[] #[]] w fun e w' => e = .returned (.bool (!(l.all numE))) ∧ w' = w := by
  have H := hid (index83_any l v w hv)
  clear hv
  generalize l.all numE = b at *
  go_enter Tryz.func185, Tryz.ntmps185
  go_wp2_with fail
  refine H.out.mono ?_
  rintro e w' ⟨⟨r, rfl, hr⟩, rfl⟩
  by_cases h0 : 0 ≤ r
  · have hb : (!b) = true := by rw [← hr.out]; simp [h0]
    obtain rfl : b = false := by simpa using hb
    clear hb hr
    go_wp2_with fail
    go_ret
    exact ⟨rfl, rfl⟩
  · have hb : (!b) = false := by rw [← hr.out]; simp [h0]
    obtain rfl : b = true := by simpa using hb
    clear hb hr
    have h1 : r < 0 := by omega
    go_wp2_with fail
    go_ret
    exact ⟨by first | rfl | (simp [h0]; done) | (simp [h1]; done) | (simp; omega), rfl⟩
theorem writable_any (l : List Int) (v : Value) (w : World) (hv : IntsR w v l) :
    Calls Tryz.prog 155 #[v] w fun e w' => e = .returned (.bool (l.all numE)) ∧ w' = w := by
  have H := hid (contains_any l v w hv)
  clear hv
  generalize l.all numE = b at *
  go_enter Tryz.func155, Tryz.ntmps155
  go_wp2_with fail
  refine H.out.mono ?_
  rintro e w' ⟨rfl, rfl⟩
  go_wp2_with fail
  go_ret
  cases b <;> exact ⟨rfl, rfl⟩
end Go.Proofs.YtnchjlimkgbfpaaGreatDoor

namespace Go.Proofs.YtnchjlimkgbfpaaGreatDoor
open Go.RowKit
set_option linter.unusedVariables false
set_option maxRecDepth 20000
set_option linter.unusedSimpArgs false
theorem ints_made (w : World) (e : TypeId) (l : List Int) (hm : l.length ≤ maxLen) : IntsR (w.alloc (.cells (l.map (Value.int .i64)).toArray e)) (.slice (some ⟨w.heap.size, 0, none⟩) l.length l.length) l := by
  have h := Rws.made (sz := 1) w e (l.map irow) (by intro cs hcs; obtain ⟨x, _, rfl⟩ := List.mem_map.1 hcs; rfl) (by simpa using hm)
  have e1 : (l.map irow).flatten = l.map (Value.int .i64) := by
    clear h hm
    induction l with
    | nil => rfl
    | cons x r ih => simp only [List.map_cons, List.flatten_cons, ih]; rfl
  rw [e1, List.length_map] at h
  exact h
theorem enc_three {seq next : Int} {drop : List Int} {adds : List Me} (h : 256 < drop.length ∨ 256 < adds.length) : (encE seq next drop adds).2 = 3 := by
  unfold encE; rw [if_pos h]
theorem enc_one {seq next : Int} {drop : List Int} {adds : List Me} (h1 : ¬ 256 < drop.length) (h2 : ¬ 256 < adds.length) (hb : (numE seq && (numE next && (drop.all numE && adds.all metE))) = false) : (encE seq next drop adds).2 = 1 := by
  unfold encE; rw [if_neg (by omega), if_neg (by rw [hb]; decide)]
theorem enc_nil {seq next : Int} {drop : List Int} {adds : List Me} (h1 : ¬ 256 < drop.length) (h2 : ¬ 256 < adds.length) (hb : (numE seq && (numE next && (drop.all numE && adds.all metE))) = true) : (encE seq next drop adds).2 = 0 := by
  unfold encE; rw [if_neg (by omega), if_pos hb]
theorem mall_goes {l : List Me} {k : Nat} {x : Me} (h : (l.take k).all metE = true) (hx : l[k]? = some x) (hn : metE x = true) : (l.take (k + 1)).all metE = true := by
  rw [List.take_add_one, hx, List.all_append, h]
  simp [hn]
theorem mall_not {l : List Me} {k : Nat} {x : Me} (hx : l[k]? = some x) (hn : metE x = false) : l.all metE = false := by
  rw [List.all_eq_false]
  exact ⟨x, List.mem_of_getElem? hx, by simp [hn]⟩
set_option maxHeartbeats 4000000 in
set_option maxRecDepth 100000 in
theorem checkEdit_any (seq next : Int) (drop : List Int) (adds : List Me) (vd va : Value) (w : World) (hd : IntsR w vd drop) (ha : MetsR w va adds) :
    Calls Tryz.prog 117 #[.agg #[vd, va, .int .i64 seq, .int .i64 next]] w fun e w' => e = .returned (.int .i64 (encE seq next drop adds).2) ∧ Hid (Below w.heap.size w w') := by
  have HDR : Hid (IntsR w vd drop) := hd
  have HAR : Hid (MetsR w va adds) := ha
  obtain ⟨ad, cd, rfl, _, md⟩ := hd.len
  obtain ⟨aa, ca, rfl, _, ma⟩ := ha.len
  clear hd ha md ma
  have UB : Hid (Below w.heap.size w (w.alloc (.cells #[.slice ad drop.length cd, .slice aa adds.length ca, .int .i64 seq, .int .i64 next] 42))) := up_alloc _ _
  by_cases h1 : 256 < drop.length
  · rw [enc_three (.inl h1)]
    have h1' : (256 : Int) < (drop.length : Int) := by omega
    clear h1 HDR HAR
    go_enter Tryz.func117, Tryz.ntmps117
    go_wp2_with fail
    go_ret
    exact ⟨rfl, UB⟩
  by_cases h2 : 256 < adds.length
  · rw [enc_three (.inr h2)]
    have h1' : ¬ (256 : Int) < (drop.length : Int) := by omega
    have h2' : (256 : Int) < (adds.length : Int) := by omega
    clear h1 h2 HDR HAR
    go_enter Tryz.func117, Tryz.ntmps117
    go_wp2_with fail
    go_ret
    exact ⟨rfl, UB⟩
  have h1' : ¬ (256 : Int) < (drop.length : Int) := by omega
  have h2' : ¬ (256 : Int) < (adds.length : Int) := by omega
  have HE1 : Hid ((numE seq && (numE next && (drop.all numE && adds.all metE))) = false → (encE seq next drop adds).2 = 1) := enc_one h1 h2
  have HE0 : Hid ((numE seq && (numE next && (drop.all numE && adds.all metE))) = true → (encE seq next drop adds).2 = 0) := enc_nil h1 h2
  have HL : Hid (adds.length ≤ 256) := by unfold Hid; omega
  clear h1 h2
  have hsz : (w.alloc (.cells #[.slice ad drop.length cd, .slice aa adds.length ca, .int .i64 seq, .int .i64 next] 42)).heap.size = w.heap.size + 1 := by simp
  have HSN : Hid (IntsR ((w.alloc (.cells #[.slice ad drop.length cd, .slice aa adds.length ca, .int .i64 seq, .int .i64 next] 42)).alloc (.cells #[.int .i64 seq, .int .i64 next] 3)) (.slice (some ⟨w.heap.size + 1, 0, none⟩) 2 2) [seq, next]) := by
    have := ints_made (w.alloc (.cells #[.slice ad drop.length cd, .slice aa adds.length ca, .int .i64 seq, .int .i64 next] 42)) 3 [seq, next] (by simp [maxLen])
    rw [hsz] at this
    exact this
  have U2 : Hid (Below w.heap.size w ((w.alloc (.cells #[.slice ad drop.length cd, .slice aa adds.length ca, .int .i64 seq, .int .i64 next] 42)).alloc (.cells #[.int .i64 seq, .int .i64 next] 3))) := up_al (up_alloc _ _) _
  have BB : Hid (((w.alloc (.cells #[.slice ad drop.length cd, .slice aa adds.length ca, .int .i64 seq, .int .i64 next] 42)).alloc (.cells #[.int .i64 seq, .int .i64 next] 3)).heap[w.heap.size]? = some (.cells #[.slice ad drop.length cd, .slice aa adds.length ca, .int .i64 seq, .int .i64 next] 42)) := blk_up (blk_new _ _) (up_alloc _ _)
  obtain ⟨w2, hw2⟩ : ∃ w2, w2 = (w.alloc (.cells #[.slice ad drop.length cd, .slice aa adds.length ca, .int .i64 seq, .int .i64 next] 42)).alloc (.cells #[.int .i64 seq, .int .i64 next] 3) := ⟨_, rfl⟩
  have HW2 : (w.alloc (.cells #[.slice ad drop.length cd, .slice aa adds.length ca, .int .i64 seq, .int .i64 next] 42)).alloc (.cells #[.int .i64 seq, .int .i64 next] 3) = w2 := hw2.symm
  rw [← hw2] at HSN U2 BB
  clear hw2 hsz UB
  have HWA := hid (writable_any _ _ w2 HSN.out)
  have HWB := hid (writable_any _ _ w2 (HDR.out.up U2.out))
  have HEQ : [seq, next].all numE = (numE seq && numE next) := by simp
  rw [HEQ] at HWA
  have c0 := blk_cell BB.out 0 _ rfl
  have c1 := blk_cell BB.out 1 _ rfl
  generalize hb0 : (numE seq && numE next) = b0 at *
  generalize hb1 : drop.all numE = b1 at *
  obtain ⟨y, hy⟩ : ∃ y, (encE seq next drop adds).2 = y := ⟨_, rfl⟩
  rw [hy] at HE1 HE0 ⊢
  clear hy HEQ HDR HSN
  cases b0
  · have hy : y = 1 := HE1.out (by rw [← Bool.and_assoc, hb0]; rfl)
    subst hy
    clear hb0 hb1 HE1 HE0 HWB
    go_enter Tryz.func117, Tryz.ntmps117
    go_upto_region 3 with fail
    go_wp2_with fail
    try rw [HW2]
    refine HWA.out.mono ?_
    rintro e w' ⟨rfl, rfl⟩
    go_wp2_with fail
    go_ret
    exact ⟨rfl, U2⟩
  cases b1
  · have hy : y = 1 := HE1.out (by rw [← Bool.and_assoc, hb0]; rfl)
    subst hy
    clear hb0 hb1 HE1 HE0
    go_enter Tryz.func117, Tryz.ntmps117
    go_upto_region 3 with fail
    go_wp2_with fail
    try rw [HW2]
    refine HWA.out.mono ?_
    rintro e w' ⟨rfl, rfl⟩
    go_wp2_with fail
    refine HWB.out.mono ?_
    rintro e w' ⟨rfl, rfl⟩
    go_wp2_with fail
    go_ret
    exact ⟨rfl, U2⟩
  have HY1 : Hid (adds.all metE = false → y = 1) := by
    intro h
    exact HE1.out (by rw [h, ← Bool.and_assoc, hb0]; rfl)
  have HY0 : Hid (adds.all metE = true → y = 0) := by
    intro h
    exact HE0.out (by rw [h, ← Bool.and_assoc, hb0]; rfl)
  clear hb0 hb1 HE1 HE0
  go_enter Tryz.func117, Tryz.ntmps117
  go_upto_region 3 with fail
  go_wp2_with fail
  try rw [HW2]
  refine HWA.out.mono ?_
  rintro e w' ⟨rfl, rfl⟩
  go_wp2_with fail
  refine HWB.out.mono ?_
  rintro e w' ⟨rfl, rfl⟩
  clear HW2 HWA HWB
  go_wp2_with fail
  go_loopw [34] (fun i wr => ∃ k : Nat, k ≤ adds.length ∧ i = .int .i64 k ∧ Hid ((adds.take k).all metE = true) ∧ Hid (Below w.heap.size w wr)) (fun i _ => adds.length - (intOf i).toNat)
  case atStart => exact ⟨0, Nat.zero_le _, rfl, by simp [Hid], U2⟩
  case round =>
    clear c0 c1 BB U2
    obtain ⟨k, hk, rfl, HA, HB⟩ := hrel
    by_cases hlt : k < adds.length
    · have hlt' : (k : Int) < (adds.length : Int) := by omega
      obtain ⟨b, off, cap, x, e, hx, x0, x1, x2, x3, x4⟩ := (HAR.out.up HB.out).at k hlt
      simp at e
      obtain ⟨rfl, rfl⟩ := e
      have HX : Hid (adds[k]? = some x) := hx
      clear hx
      have UB : Hid (Below wr.heap.size wr (wr.alloc (meBox x))) := up_alloc _ _
      have BXX : Hid (BoxM (wr.alloc (meBox x)) wr.heap.size x) := blk_new _ _
      have HB2 : Hid (Below w.heap.size w (wr.alloc (meBox x))) := up_al HB.out _
      obtain ⟨w2', hw2⟩ : ∃ w2, w2 = wr.alloc (meBox x) := ⟨_, rfl⟩
      have HW2 : Hid (wr.alloc (.cells #[.int .i64 x.id, .int .i64 x.lvl, .int .i64 x.cnt, .string x.low, .string x.high] 148) = w2') := hw2.symm
      rw [← hw2] at UB HB2 BXX
      clear hw2
      have HNO : Hid (∀ w, Calls Tryz.prog 119 #[.agg #[.int .i64 x.id, .int .i64 x.lvl, .int .i64 x.cnt, .string x.low, .string x.high]] w fun e w' => e = .returned (.agg #[.int .i64 x.id, .int .i64 x.lvl, .int .i64 x.cnt]) ∧ Hid (Below w.heap.size w w')) := fun w => numbersOf_any x w
      have HTO : Hid (∀ w, Calls Tryz.prog 120 #[.agg #[.int .i64 x.id, .int .i64 x.lvl, .int .i64 x.cnt, .string x.low, .string x.high]] w fun e w' => e = .returned (.agg #[.string x.low, .string x.high]) ∧ Hid (Below w.heap.size w w')) := fun w => textsOf_any x w
      have iy0 := fun w => (idx89 x.low x.high w).1
      have iy1 := fun w => (idx89 x.low x.high w).2
      go_upto_region 8 with fail
      rw [HW2.out]
      clear HW2 UB x0 x1 x2 x3 x4
      generalize wr.heap.size = NX at *
      obtain ⟨m0, m1, m2, m3, m4⟩ := BXX.out.cells
      go_wp2_with fail
      refine (HNO.out _).mono ?_
      rintro e w3 ⟨rfl, u3⟩
      have HI3 : Hid (IntsR (w3.alloc (.cells #[.int .i64 x.id, .int .i64 x.lvl, .int .i64 x.cnt] 205)) (.slice (some ⟨w3.heap.size, 0, none⟩) 3 3) [x.id, x.lvl, x.cnt]) := ints_made w3 205 [x.id, x.lvl, x.cnt] (by simp [maxLen])
      have HB3 : Hid (Below w.heap.size w (w3.alloc (.cells #[.int .i64 x.id, .int .i64 x.lvl, .int .i64 x.cnt] 205))) := up_al (up_trans HB2.out u3.out) _
      have BX3 : Hid (BoxM (w3.alloc (.cells #[.int .i64 x.id, .int .i64 x.lvl, .int .i64 x.cnt] 205)) NX x) := (BXX.out.up u3.out).up (up_alloc _ _)
      obtain ⟨w4, hw4⟩ : ∃ w4, w4 = w3.alloc (.cells #[.int .i64 x.id, .int .i64 x.lvl, .int .i64 x.cnt] 205) := ⟨_, rfl⟩
      have HW4 : Hid (w3.alloc (.cells #[.int .i64 x.id, .int .i64 x.lvl, .int .i64 x.cnt] 205) = w4) := hw4.symm
      rw [← hw4] at HI3 HB3 BX3
      clear hw4 u3 BXX HB2 m0 m1 m2 m3 m4
      go_upto_region 9 with fail
      rw [HW4.out]
      clear HW4
      generalize w3.heap.size = NY at *
      have HWR := hid (writable_any _ _ w4 HI3.out)
      clear HI3
      obtain ⟨m0, m1, m2, m3, m4⟩ := BX3.out.cells
      have HME : metE x = ([x.id, x.lvl, x.cnt].all numE && decide (x.low.size ≤ 96 ∧ x.high.size ≤ 96)) := by unfold metE; simp [Bool.and_assoc]
      generalize [x.id, x.lvl, x.cnt].all numE = b at *
      cases b
      · have hy : y = 1 := HY1.out (mall_not HX.out (by rw [HME]; rfl))
        subst hy
        clear HME
        go_wp2_with fail
        refine HWR.out.mono ?_
        rintro e w' ⟨rfl, rfl⟩
        go_wp2_with fail
        go_ret
        exact ⟨rfl, HB3⟩
      by_cases hlo : 96 < x.low.size
      · have hlo' : (96 : Int) < (x.low.size : Int) := by omega
        have hy : y = 1 := HY1.out (mall_not HX.out (by rw [HME]; simp; omega))
        subst hy
        clear HME
        go_wp2_with fail
        refine HWR.out.mono ?_
        rintro e w' ⟨rfl, rfl⟩
        go_wp2_with fail
        refine (HTO.out _).mono ?_
        rintro e w5 ⟨rfl, u5⟩
        have HB5 := hid (up_trans HB3.out u5.out)
        go_wp2_with fail
        refine wp_loop_rounds 3 ?_
        rw [rounds_succ]
        go_wp2_with fail
        go_ret
        exact ⟨rfl, HB5⟩
      have hlo' : ¬ (96 : Int) < (x.low.size : Int) := by omega
      by_cases hhi : 96 < x.high.size
      · have hhi' : (96 : Int) < (x.high.size : Int) := by omega
        have hy : y = 1 := HY1.out (mall_not HX.out (by rw [HME]; simp; omega))
        subst hy
        clear HME
        go_wp2_with fail
        refine HWR.out.mono ?_
        rintro e w' ⟨rfl, rfl⟩
        go_wp2_with fail
        refine (HTO.out _).mono ?_
        rintro e w5 ⟨rfl, u5⟩
        have HB5 := hid (up_trans HB3.out u5.out)
        go_wp2_with fail
        refine wp_loop_rounds 3 ?_
        rw [rounds_succ]
        go_wp2_with fail
        rw [rounds_succ]
        go_wp2_with fail
        go_ret
        exact ⟨rfl, HB5⟩
      have hhi' : ¬ (96 : Int) < (x.high.size : Int) := by omega
      have HA' := hid (mall_goes HA.out HX.out (by rw [HME]; simp; omega))
      clear HME
      go_wp2_with fail
      refine HWR.out.mono ?_
      rintro e w' ⟨rfl, rfl⟩
      go_wp2_with fail
      refine (HTO.out _).mono ?_
      rintro e w5 ⟨rfl, u5⟩
      have HB5 := hid (up_trans HB3.out u5.out)
      go_wp2_with fail
      refine wp_loop_rounds 3 ?_
      rw [rounds_succ]
      go_wp2_with fail
      rw [rounds_succ]
      go_wp2_with fail
      rw [rounds_succ]
      go_wp2_with fail
      exact ⟨⟨k + 1, by omega, by go_num, HA', HB5⟩, by simp [intOf]; omega⟩
    · have hlt' : ¬ (k : Int) < (adds.length : Int) := by omega
      obtain rfl : k = adds.length := by omega
      rw [List.take_length] at HA
      have hy := HY0.out HA.out
      subst hy
      go_wp2_with fail
      go_ret
      exact ⟨rfl, HB⟩
end Go.Proofs.YtnchjlimkgbfpaaGreatDoor
