/- Decode, First and Seek of the page; copies; what is turned, what is near. -/
import Derived.Test.YtibjjhceiohmeaaXTold2
import Derived.Test.YtibjjhceiohmeaaNF
import Derived.Deep.Cut
import Derived.Test.YtibjjhceiohmeaaNG
import Derived.Test.YtibjjhceiohmeaaXEnc

/- The document's Decode of layer 9. -/
namespace Go.Proofs.Ytibjjhceiohmeaa
open Go.RowKit SumPlain
set_option linter.unusedVariables false
set_option linter.unusedSimpArgs false

theorem encB_oct (l : List En) : OctL (encB l).1 := by
  unfold encB
  by_cases h : chkB l = 0
  · rw [if_pos h]
    obtain ⟨_, _, hm⟩ := chkB_may h
    refine guard_octet _ ?_
    unfold blockO
    refine OctL.app (bodyO_oct l 0 [] hm) (OctL.app (tailO_oct l 0 [] 0) ?_)
    intro y hy
    simp at hy
    omega
  · rw [if_neg h]
    intro y hy
    cases hy
theorem bare_oct {l : List Int} (h : OctL l) : OctL (bareOf l).1 := by
  unfold bareOf
  split
  · intro y hy; cases hy
  · split
    · exact fun y hy => h y (List.mem_of_mem_take hy)
    · intro y hy; cases hy
theorem bare_le (l : List Int) : (bareOf l).1.length ≤ l.length := by
  unfold bareOf
  split
  · simp
  · split
    · simp
    · simp

/-- How the document's Decode ends. -/
def DecE (d : List En × Int) (w : World) (e : Ending) (w' : World) : Prop := ∃ a n c, e = .returned (.tuple #[.slice a n c, .int .i64 d.2]) ∧ Hid (n = d.1.length ∧ OwnR w' w.heap.size 36 4 (.slice a n c) (d.1.map enRow)) ∧ Hid (Below w.heap.size w w')

set_option maxHeartbeats 2000000 in
set_option maxRecDepth 100000 in
theorem refDecB_any (B : List Int) (v : Value) (w : World) (hv : Octs w v B) (hl : B.length ≤ 140737488351232) :
    Calls Try.prog 14 #[v] w fun e w' => DecE (decB B) w e w' := by
  have HV : Hid (Octs w v B) := hv
  have HC := refBare_any B v w hv hl
  clear hv
  by_cases h0 : (bareOf B).2 = 0
  · rw [h0] at HC
    have HL : Hid ((bareOf B).1.length ≤ 140737488355328) := by have := bare_le B; unfold Hid; omega
    go_enter Try.func14, Try.ntmps14
    go_wp2_with fail
    refine HC.mono ?_
    rintro e w1 ⟨v1, rfl, O1, b1⟩
    have U1 : Hid (Below w.heap.size w w1) := b1
    have HT := refTold_any (bareOf B).1 v1 w1 (Octs.own O1 (bare_oct HV.out.1)) HL.out
    clear HC O1 b1
    go_wp2_with fail
    refine HT.mono ?_
    rintro e w2 ⟨a2, n2, c2, rfl, P2, U2⟩
    have HE : Hid (EntsR w2 (.slice a2 n2 c2) (toldB (bareOf B).1)) := Rws.own P2.out.2
    have HD : Hid (decB B = if encB (toldB (bareOf B).1) = (B, 0) then (toldB (bareOf B).1, 0) else ([], 21)) := by unfold Hid decB; rw [if_pos h0]
    have U2' : Hid (Below w.heap.size w w2) := up_trans U1.out U2.out
    have S1 : Hid (w.heap.size ≤ w1.heap.size) := U1.out.size
    clear HT U2 U1 HL
    generalize toldB (bareOf B).1 = L at *
    have HN := refEncB_any L _ w2 HE.out
    by_cases h2 : (encB L).2 = 0
    · rw [h2] at HN
      go_wp2_with fail
      refine HN.mono ?_
      rintro e w3 ⟨v3, rfl, O3, b3⟩
      have U3 : Hid (Below w2.heap.size w2 w3) := b3
      have hk := run_convert_octs (encB L).1 v3 w3 (Octs.own O3 (encB_oct L))
      have hkb := run_convert_octs B v w3 (HV.out.up (up_trans U2'.out b3))
      have hs := str_eq (encB L).1 B (encB_oct L) HV.out.1
      clear HN O3 b3
      by_cases h3 : (encB L).1 = B
      · rw [decide_eq_true h3] at hs
        have HF : Hid (decB B = (L, 0)) := by
          unfold Hid
          rw [HD.out, if_pos (Prod.ext h3 h2)]
        go_wp2
        go_ret2
        rw [HF.out]
        exact ⟨a2, n2, c2, rfl, ⟨P2.out.1, (P2.out.2.up U3.out).mono S1.out⟩, up_trans U2'.out U3.out⟩
      · rw [decide_eq_false h3] at hs
        have HF : Hid (decB B = ([], 21)) := by
          unfold Hid
          rw [HD.out, if_neg (fun e => h3 (by rw [e]))]
        go_wp2
        go_ret2
        rw [HF.out]
        exact ⟨none, 0, 0, rfl, ⟨rfl, OwnR.nil _ _ _ _⟩, up_trans U2'.out U3.out⟩
    · have HF : Hid (decB B = ([], 21)) := by
        unfold Hid
        rw [HD.out, if_neg (fun e => h2 (by rw [e]))]
      generalize (encB L).2 = q at *
      have hq1 : (q == 0) = false := by simp [h2]
      have hq2 : (q != 0) = true := by simp [h2]
      go_wp2_with fail
      refine HN.mono ?_
      rintro e w3 ⟨v3, rfl, O3, b3⟩
      have U3 : Hid (Below w2.heap.size w2 w3) := b3
      clear HN O3 b3
      go_wp2
      go_ret2
      rw [HF.out]
      exact ⟨none, 0, 0, rfl, ⟨rfl, OwnR.nil _ _ _ _⟩, up_trans U2'.out U3.out⟩
  · have HF : Hid (decB B = ([], (bareOf B).2)) := by unfold Hid decB; rw [if_neg h0]
    generalize (bareOf B).2 = q at *
    have hq1 : (q == 0) = false := by simp [h0]
    have hq2 : (q != 0) = true := by simp [h0]
    go_enter Try.func14, Try.ntmps14
    go_wp2_with fail
    refine HC.mono ?_
    rintro e w1 ⟨v1, rfl, O1, b1⟩
    have U1 : Hid (Below w.heap.size w w1) := b1
    clear HC O1 b1
    go_wp2
    go_ret2
    rw [HF.out]
    exact ⟨none, 0, 0, rfl, ⟨rfl, OwnR.nil _ _ _ _⟩, U1.out⟩
end Go.Proofs.Ytibjjhceiohmeaa

/- The document's First. -/
namespace Go.Proofs.Ytibjjhceiohmeaa
open Go.RowKit
set_option linter.unusedVariables false
set_option linter.unusedSimpArgs false

theorem results_ent {fn : Func} {q r : Nat} (h : fn.results = #[.cell q 36, .tmp r]) (tmps : Array Value) (w : World) {N : Nat} {a b c d : Value} (ht : tmps.getD q undef = .pointer (some ⟨N, 0, none⟩))
    (hc : w.heap[N]? = some (.cells #[a, b, c, d] 36)) : (results fn tmps).run Try.prog w = .ok (.tuple #[.agg #[a, b, c, d], tmps.getD r undef]) w := by
  have c0 := blk_cell hc 0 a rfl
  have c1 := blk_cell hc 1 b rfl
  have c2 := blk_cell hc 2 c rfl
  have c3 := blk_cell hc 3 d rfl
  have ht' : tmps[q]?.getD undef = .pointer (some ⟨N, 0, none⟩) := by simpa using ht
  simp only [results, h]
  simp [ht', go_sem, c0, c1, c2, c3]
theorem set4_blk {w : World} {N : Nat} {t : TypeId} {x0 x1 x2 x3 : Value} (h : w.heap[N]? = some (.cells #[x0, x1, x2, x3] t)) (a b c d : Value) : ((((w.setCell ⟨N, 0, none⟩ a).setCell ⟨N, 1, none⟩ b).setCell ⟨N, 2, none⟩ c).setCell ⟨N, 3, none⟩ d).heap[N]? = some (.cells #[a, b, c, d] t) := by
  have := blk_set (blk_set (blk_set (blk_set h 0 a) 1 b) 2 c) 3 d
  simpa only [List.setIfInBounds_toArray, List.set_cons_zero, List.set_cons_succ] using this
theorem set4_grown (w : World) (N : Nat) (a b c d : Value) : w.grownBy ((((w.setCell ⟨N, 0, none⟩ a).setCell ⟨N, 1, none⟩ b).setCell ⟨N, 2, none⟩ c).setCell ⟨N, 3, none⟩ d) (some N) :=
  grown_trans (grown_trans (grown_trans (grown_set w ⟨N, 0, none⟩ a) (grown_set _ ⟨N, 1, none⟩ b)) (grown_set _ ⟨N, 2, none⟩ c)) (grown_set _ ⟨N, 3, none⟩ d)

instance : Inhabited En := ⟨⟨⟨#[]⟩, 0, 0, ⟨#[]⟩⟩⟩
def firstF (l : List En) (key : ByteArray) (seq : Int) : Option En := l.find? fun e => (e.key.toList == key.toList) && decide (e.seq ≤ seq)
/-- What First answers. -/
def firstV (l : List En) (key : ByteArray) (seq : Int) : En × Bool := match firstF l key seq with | none => (default, false) | some y => (y, true)
theorem firstF_drop {l : List En} {key : ByteArray} {seq : Int} {i : Nat} {y : En} (h : l[i]? = some y) : firstF (l.drop i) key seq = if ((y.key.toList == key.toList) && decide (y.seq ≤ seq)) = true then some y else firstF (l.drop (i + 1)) key seq := by
  have hi := (List.getElem?_eq_some_iff.1 h).1
  rw [List.drop_eq_getElem_cons hi, (List.getElem?_eq_some_iff.1 h).2]
  unfold firstF
  rw [List.find?_cons]
  cases q : ((y.key.toList == key.toList) && decide (y.seq ≤ seq)) <;> simp
set_option maxHeartbeats 1000000 in
set_option maxRecDepth 100000 in
theorem first_any (l : List En) (a : Option Addr) (c : Nat) (key : ByteArray) (seq : Int) (w : World) (hl : EntsR w (.slice a l.length c) l) :
    Calls Try.prog 37 #[.slice a l.length c, .string key, .int .i64 seq] w fun e w' => e = .returned (.tuple #[enV (firstV l key seq).1, .bool (firstV l key seq).2]) ∧ Hid (Below w.heap.size w w') := by
  have HL : Hid (EntsR w (.slice a l.length c) l) := hl
  have h63 : (l.length : Int) ≤ 9223372036854775807 := by obtain ⟨_, _, e, h4, h5⟩ := hl.len; unfold maxLen at h5; omega
  have HEND : Hid (∀ y b, firstV l key seq = (y, b) → Ending.returned (.tuple #[.agg #[.string y.key, .int .i64 y.seq, .int .i64 y.kind, .string y.val], .bool b]) = .returned (.tuple #[enV (firstV l key seq).1, .bool (firstV l key seq).2])) := by
    intro y b h
    rw [h]
    rfl
  have B0 : Hid ((w.alloc (.cells #[.string ⟨#[]⟩, .int .i64 0, .int .i64 0, .string ⟨#[]⟩] 36)).heap[w.heap.size]? = some (.cells #[.string ⟨#[]⟩, .int .i64 0, .int .i64 0, .string ⟨#[]⟩] 36)) := blk_new _ _
  have U0 : Hid (Below w.heap.size w (w.alloc (.cells #[.string ⟨#[]⟩, .int .i64 0, .int .i64 0, .string ⟨#[]⟩] 36))) := up_alloc _ _
  clear hl
  obtain ⟨wb, hwb⟩ : ∃ wb, wb = w.alloc (.cells #[.string ⟨#[]⟩, .int .i64 0, .int .i64 0, .string ⟨#[]⟩] 36) := ⟨_, rfl⟩
  have HWB : Hid (w.alloc (.cells #[.string ⟨#[]⟩, .int .i64 0, .int .i64 0, .string ⟨#[]⟩] 36) = wb) := hwb.symm
  rw [← hwb] at B0 U0
  clear hwb
  go_enter Try.func37, Try.ntmps37
  go_wp2_with fail
  rw [HWB.out]
  go_loopw [8] (fun q wr => ∃ i : Nat, i ≤ l.length ∧ q = .int .i64 (i : Int) ∧ Hid (firstF (l.drop i) key seq = firstF l key seq) ∧ wr = wb) (fun q _ => l.length - (intOf q).toNat)
  case atStart => exact ⟨0, by omega, rfl, by simp [Hid], rfl⟩
  case round =>
    obtain ⟨i, hi, rfl, HF, rfl⟩ := hrel
    have d0 : wr.cell? ⟨w.heap.size, 0, none⟩ = some (.string ⟨#[]⟩) := blk_cell B0.out 0 _ rfl
    have d1 : wr.cell? ⟨w.heap.size, 1, none⟩ = some (.int .i64 0) := blk_cell B0.out 1 _ rfl
    have d2 : wr.cell? ⟨w.heap.size, 2, none⟩ = some (.int .i64 0) := blk_cell B0.out 2 _ rfl
    have d3 : wr.cell? ⟨w.heap.size, 3, none⟩ = some (.string ⟨#[]⟩) := blk_cell B0.out 3 _ rfl
    have f0 := fun k => blk_frozen B0.out k
    by_cases hlt : i < l.length
    · have hlt' : (i : Int) < (l.length : Int) := by omega
      obtain ⟨b, off, cap, y, e, hy, y0, y1, y2, y3⟩ := (HL.out.up U0.out).at i hlt
      simp only [Value.slice.injEq] at e
      obtain ⟨rfl, _, rfl⟩ := e
      have HD := firstF_drop (key := key) (seq := seq) hy
      have HDH : Hid (firstF (l.drop i) key seq = if ((y.key.toList == key.toList) && decide (y.seq ≤ seq)) = true then some y else firstF (l.drop (i + 1)) key seq) := HD
      clear HD hy
      by_cases q1 : y.key.toList = key.toList
      · have q1' : (y.key.toList == key.toList) = true := by simp [q1]
        by_cases q2 : y.seq ≤ seq
        · have HE : Hid (firstV l key seq = (y, true)) := by
            unfold Hid firstV
            rw [← HF.out, HDH.out, q1']
            simp [q2]
          go_wp2_with fail
          refine bodyPost_ret (results_ent (q := 6) (r := 7) rfl _ _ rfl (set4_blk B0.out (.string y.key) (.int .i64 y.seq) (.int .i64 y.kind) (.string y.val))) rfl ?_
          exact ⟨HEND.out y true HE.out, U0.out.grown (set4_grown _ w.heap.size _ _ _ _) U0.out.size (fun k hk => by injection hk with hk; omega)⟩
        · have HN : Hid (firstF (l.drop (i + 1)) key seq = firstF l key seq) := by
            unfold Hid
            rw [← HF.out, HDH.out, q1']
            simp [q2]
          go_wp2_with fail
          exact ⟨⟨i + 1, by omega, by go_num, HN, trivial⟩, by simp [intOf]; omega⟩
      · have q1' : (y.key.toList == key.toList) = false := by simp [q1]
        have HN : Hid (firstF (l.drop (i + 1)) key seq = firstF l key seq) := by
          unfold Hid
          rw [← HF.out, HDH.out, q1']
          simp
        go_wp2_with fail
        exact ⟨⟨i + 1, by omega, by go_num, HN, trivial⟩, by simp [intOf]; omega⟩
    · obtain rfl : i = l.length := by omega
      have HE : Hid (firstV l key seq = (default, false)) := by
        unfold Hid firstV
        rw [← HF.out, List.drop_length]
        rfl
      go_wp2_with fail
      refine bodyPost_ret (results_ent (q := 6) (r := 7) rfl _ _ rfl (set4_blk B0.out (.string ⟨#[]⟩) (.int .i64 0) (.int .i64 0) (.string ⟨#[]⟩))) rfl ?_
      exact ⟨HEND.out default false HE.out, U0.out.grown (set4_grown _ w.heap.size _ _ _ _) U0.out.size (fun k hk => by injection hk with hk; omega)⟩
end Go.Proofs.Ytibjjhceiohmeaa

/- The document's Seek of layer 9. -/
namespace Go.Proofs.Ytibjjhceiohmeaa
open Go.RowKit SumPlain
set_option linter.unusedVariables false
set_option linter.unusedSimpArgs false

/-- What Seek answers: the version (or none), whether there is one, the error. -/
def seekB (b : List Int) (key : ByteArray) (seq : Int) : En × Bool × Int :=
  if (decB b).2 = 0 then ((firstV (decB b).1 key seq).1, (firstV (decB b).1 key seq).2, 0) else (default, false, (decB b).2)
theorem results_ent3 {fn : Func} {q r u : Nat} (h : fn.results = #[.cell q 36, .tmp r, .tmp u]) (tmps : Array Value) (w : World) {N : Nat} {a b c d : Value} (ht : tmps.getD q undef = .pointer (some ⟨N, 0, none⟩))
    (hc : w.heap[N]? = some (.cells #[a, b, c, d] 36)) : (results fn tmps).run Try.prog w = .ok (.tuple #[.agg #[a, b, c, d], tmps.getD r undef, tmps.getD u undef]) w := by
  have c0 := blk_cell hc 0 a rfl
  have c1 := blk_cell hc 1 b rfl
  have c2 := blk_cell hc 2 c rfl
  have c3 := blk_cell hc 3 d rfl
  have ht' : tmps[q]?.getD undef = .pointer (some ⟨N, 0, none⟩) := by simpa using ht
  simp only [results, h]
  simp [ht', go_sem, c0, c1, c2, c3]

set_option maxHeartbeats 4000000 in
set_option maxRecDepth 100000 in
theorem refSeek_any (B : List Int) (v : Value) (key : ByteArray) (seq : Int) (w : World) (hv : Octs w v B) (hl : B.length ≤ 140737488351232) :
    Calls Try.prog 16 #[v, .string key, .int .i64 seq] w fun e w' => e = .returned (.tuple #[enV (seekB B key seq).1, .bool (seekB B key seq).2.1, .int .i64 (seekB B key seq).2.2]) ∧ Hid (Below w.heap.size w w') := by
  obtain ⟨wa, hwa⟩ : ∃ wa, wa = w.alloc (.cells #[.string ⟨#[]⟩, .int .i64 0, .int .i64 0, .string ⟨#[]⟩] 36) := ⟨_, rfl⟩
  have HWA : Hid (w.alloc (.cells #[.string ⟨#[]⟩, .int .i64 0, .int .i64 0, .string ⟨#[]⟩] 36) = wa) := hwa.symm
  have HB : Hid (Below w.heap.size w wa ∧ wa.heap[w.heap.size]? = some (.cells #[.string ⟨#[]⟩, .int .i64 0, .int .i64 0, .string ⟨#[]⟩] 36)) := by
    rw [hwa]
    exact ⟨up_alloc _ _, blk_new _ _⟩
  have HC := refDecB_any B v wa (hv.up HB.out.1) hl
  clear hwa hv
  have HEND : Hid (∀ (wz : World) (y : En) (b : Bool) (code : Int), Below w.heap.size w wz → wz.heap[w.heap.size]? = some (.cells #[.string ⟨#[]⟩, .int .i64 0, .int .i64 0, .string ⟨#[]⟩] 36) → seekB B key seq = (y, b, code) →
      ((((wz.setCell ⟨w.heap.size, 0, none⟩ (.string y.key)).setCell ⟨w.heap.size, 1, none⟩ (.int .i64 y.seq)).setCell ⟨w.heap.size, 2, none⟩ (.int .i64 y.kind)).setCell ⟨w.heap.size, 3, none⟩ (.string y.val)).heap[w.heap.size]? = some (.cells #[.string y.key, .int .i64 y.seq, .int .i64 y.kind, .string y.val] 36) ∧
      (Ending.returned (.tuple #[.agg #[.string y.key, .int .i64 y.seq, .int .i64 y.kind, .string y.val], .bool b, .int .i64 code]) = .returned (.tuple #[enV (seekB B key seq).1, .bool (seekB B key seq).2.1, .int .i64 (seekB B key seq).2.2]) ∧ Hid (Below w.heap.size w ((((wz.setCell ⟨w.heap.size, 0, none⟩ (.string y.key)).setCell ⟨w.heap.size, 1, none⟩ (.int .i64 y.seq)).setCell ⟨w.heap.size, 2, none⟩ (.int .i64 y.kind)).setCell ⟨w.heap.size, 3, none⟩ (.string y.val))))) := by
    intro wz y b code hb h27 he
    refine ⟨set4_blk h27 _ _ _ _, by rw [he]; rfl, ?_⟩
    exact hb.grown (set4_grown wz w.heap.size _ _ _ _) hb.size (fun k hk => by injection hk with hk; omega)
  go_enter Try.func16, Try.ntmps16
  go_upto_region 1 with fail
  rw [HWA.out]
  clear HWA
  go_wp2_with fail
  refine HC.mono ?_
  rintro e w1 ⟨a, n, c, rfl, HL, U1⟩
  have HB1 : Hid (Below w.heap.size w w1 ∧ w1.heap[w.heap.size]? = some (.cells #[.string ⟨#[]⟩, .int .i64 0, .int .i64 0, .string ⟨#[]⟩] 36)) := ⟨up_trans HB.out.1 U1.out, blk_up HB.out.2 U1.out⟩
  clear HC HB U1
  by_cases hG : (decB B).2 = 0
  · rw [hG]
    have HGV : Hid (seekB B key seq = ((firstV (decB B).1 key seq).1, (firstV (decB B).1 key seq).2, 0)) := by
      unfold Hid seekB
      rw [if_pos hG]
    have HLR : Hid (EntsR w1 (.slice a n c) (decB B).1 ∧ n = (decB B).1.length) := ⟨Rws.own HL.out.2, HL.out.1⟩
    obtain ⟨y, b, hyb⟩ : ∃ y b, firstV (decB B).1 key seq = (y, b) := ⟨_, _, rfl⟩
    have HF := first_any (decB B).1 a c key seq w1 (by have := HLR.out; rw [← this.2]; exact this.1)
    rw [← HLR.out.2, hyb] at HF
    unfold enV at HF
    have HGE : Hid (seekB B key seq = (y, b, 0)) := by
      have := HGV.out
      rw [hyb] at this
      exact this
    clear hG hyb HL
    go_wp2_with fail
    refine HF.mono ?_
    rintro e w2 ⟨rfl, U2⟩
    clear HF
    obtain ⟨w3, hw3⟩ : ∃ w3, w3 = w2.alloc (.cells #[.string y.key, .int .i64 y.seq, .int .i64 y.kind, .string y.val] 36) := ⟨_, rfl⟩
    have HW3 : Hid (w2.alloc (.cells #[.string y.key, .int .i64 y.seq, .int .i64 y.kind, .string y.val] 36) = w3) := hw3.symm
    have HB3 : Hid (Below w.heap.size w w3 ∧ w3.heap[w.heap.size]? = some (.cells #[.string ⟨#[]⟩, .int .i64 0, .int .i64 0, .string ⟨#[]⟩] 36) ∧ w3.heap[w2.heap.size]? = some (.cells #[.string y.key, .int .i64 y.seq, .int .i64 y.kind, .string y.val] 36)) := by
      rw [hw3]
      exact ⟨up_al (up_trans HB1.out.1 U2.out) _, blk_up (blk_up HB1.out.2 U2.out) (up_alloc _ _), blk_new _ _⟩
    clear hw3
    go_upto_region 5 with fail
    rw [HW3.out]
    clear HW3
    generalize hT : w2.heap.size = T at *
    have t0 : w3.cell? ⟨T, 0, none⟩ = some (.string y.key) := blk_cell HB3.out.2.2 0 _ rfl
    have t1 : w3.cell? ⟨T, 1, none⟩ = some (.int .i64 y.seq) := blk_cell HB3.out.2.2 1 _ rfl
    have t2 : w3.cell? ⟨T, 2, none⟩ = some (.int .i64 y.kind) := blk_cell HB3.out.2.2 2 _ rfl
    have t3 : w3.cell? ⟨T, 3, none⟩ = some (.string y.val) := blk_cell HB3.out.2.2 3 _ rfl
    have d0 : w3.cell? ⟨w.heap.size, 0, none⟩ = some (.string ⟨#[]⟩) := blk_cell HB3.out.2.1 0 _ rfl
    have d1 : w3.cell? ⟨w.heap.size, 1, none⟩ = some (.int .i64 0) := blk_cell HB3.out.2.1 1 _ rfl
    have d2 : w3.cell? ⟨w.heap.size, 2, none⟩ = some (.int .i64 0) := blk_cell HB3.out.2.1 2 _ rfl
    have d3 : w3.cell? ⟨w.heap.size, 3, none⟩ = some (.string ⟨#[]⟩) := blk_cell HB3.out.2.1 3 _ rfl
    have f0 := fun k => blk_frozen HB3.out.2.1 k
    go_wp2_with fail
    obtain ⟨hz1, hz2⟩ := HEND.out _ y b 0 HB3.out.1 HB3.out.2.1 HGE.out
    exact bodyPost_ret (results_ent3 (q := 6) (r := 7) (u := 8) rfl _ _ rfl hz1) rfl hz2
  · have HE : Hid (seekB B key seq = (default, false, (decB B).2)) := by
      unfold Hid seekB
      rw [if_neg hG]
    generalize (decB B).2 = q at *
    have hq1 : (q == 0) = false := by simp [hG]
    have hq2 : (q != 0) = true := by simp [hG]
    have d0 : w1.cell? ⟨w.heap.size, 0, none⟩ = some (.string ⟨#[]⟩) := blk_cell HB1.out.2 0 _ rfl
    have d1 : w1.cell? ⟨w.heap.size, 1, none⟩ = some (.int .i64 0) := blk_cell HB1.out.2 1 _ rfl
    have d2 : w1.cell? ⟨w.heap.size, 2, none⟩ = some (.int .i64 0) := blk_cell HB1.out.2 2 _ rfl
    have d3 : w1.cell? ⟨w.heap.size, 3, none⟩ = some (.string ⟨#[]⟩) := blk_cell HB1.out.2 3 _ rfl
    have f0 := fun k => blk_frozen HB1.out.2 k
    go_wp2_with fail
    obtain ⟨hz1, hz2⟩ := HEND.out w1 default false q HB1.out.1 HB1.out.2 HE.out
    exact bodyPost_ret (results_ent3 (q := 6) (r := 7) (u := 8) rfl _ _ rfl hz1) rfl hz2
end Go.Proofs.Ytibjjhceiohmeaa

/- Copies, spoiling, numbers: the law's own small functions of layer 9. -/
namespace Go.Proofs.Ytibjjhceiohmeaa
open Go.RowKit SumPlain
set_option linter.unusedVariables false
set_option linter.unusedSimpArgs false

theorem xor_u8 (a b : Int) : 0 ≤ bits .xor .u8 a b ∧ bits .xor .u8 a b ≤ 255 := by
  show 0 ≤ IntKind.u8.wrap _ ∧ IntKind.u8.wrap _ ≤ 255
  rw [IntKind.wrap_u8']
  omega

set_option maxHeartbeats 1000000 in
theorem spoil_any (l : List Int) (v : Value) (w : World) (base : Nat) (hv : OwnB w base v l) (hx : ∀ x ∈ l, 0 ≤ x ∧ x ≤ 255) (hl : l.length ≤ 140737488355328) :
    Calls Try.prog 24 #[v] w fun e w' => (∃ u, e = .returned u) ∧ w.grownBy w' v.ownBlock := by
  obtain ⟨a, cap, rfl, hcap⟩ := own_len hv
  obtain ⟨n, hn⟩ : ∃ n, n = l.length := ⟨_, rfl⟩
  have HV : Hid (OwnB w base (.slice a n cap) l ∧ l.length = n ∧ ∀ x ∈ l, 0 ≤ x ∧ x ≤ 255) := by subst hn; exact ⟨hv, rfl, hx⟩
  rw [← hn] at hcap hl ⊢
  clear hv hn hx
  go_enter Try.func24, Try.ntmps24
  go_wp2
  go_loopw [2] (fun i wr => ∃ (k : Nat) (l' : List Int), k ≤ n ∧ i = .int .i64 k ∧ Hid (OwnB wr base (.slice a n cap) l' ∧ l'.length = n ∧ ∀ x ∈ l', 0 ≤ x ∧ x ≤ 255) ∧ Hid (w.grownBy wr (Value.slice a n cap).ownBlock)) (fun i _ => n - (intOf i).toNat)
  case atStart => exact ⟨0, l, Nat.zero_le _, rfl, HV, grown_refl _ _⟩
  case round =>
    obtain ⟨k, l', hk, rfl, HO, HG⟩ := hrel
    by_cases hlt : k < n
    · have hlt' : (k : Int) < (n : Int) := by omega
      obtain ⟨ho, hn', hoct⟩ := HO.out
      obtain ⟨g, rfl⟩ : ∃ g, a = some ⟨g, 0, none⟩ := by
        obtain ⟨_, h⟩ := ho
        rcases h with ⟨e, h0⟩ | ⟨g, c2, cur, e, _⟩
        · rw [hn'] at h0
          omega
        · simp at e
          exact ⟨g, e.1⟩
      unfold OwnB at ho
      rw [hn'] at ho
      have hc0 := ho.cellAt k (by omega)
      have hf0 := ho.frozenAt k
      obtain ⟨y, hy⟩ : ∃ y, l'[k]? = some y := ⟨_, List.getElem?_eq_getElem (by omega)⟩
      rw [List.getElem?_map, hy] at hc0
      simp only [Option.map_some] at hc0
      obtain ⟨y0, y1⟩ := hoct y (List.mem_of_getElem? hy)
      have HSt : Hid (∀ z : Int, OwnB (wr.setCell ⟨g, k, none⟩ (.int .u8 z)) base (.slice (some ⟨g, 0, none⟩) n cap) (l'.set k z) ∧ wr.grownBy (wr.setCell ⟨g, k, none⟩ (.int .u8 z)) (some g)) := by
        intro z
        have hst := ho.stored k (.int .u8 z)
        refine ⟨?_, hst.2⟩
        unfold OwnB
        rw [List.length_set, hn', List.map_set]
        exact hst.1
      have HOct : Hid (∀ z : Int, 0 ≤ z ∧ z ≤ 255 → ∀ x ∈ l'.set k z, 0 ≤ x ∧ x ≤ 255) := by
        intro z hz x hx
        rcases List.mem_or_eq_of_mem_set hx with h1 | h1
        · exact hoct x h1
        · rw [h1]; exact hz
      clear ho hoct
      go_wp2
      exact ⟨⟨k + 1, l'.set k _, by omega, by go_num, ⟨(HSt.out _).1, by rw [List.length_set]; exact hn', HOct.out _ (xor_u8 _ _)⟩, grown_trans HG.out (HSt.out _).2⟩, by simp [intOf]; omega⟩
    · have hlt' : ¬ (k : Int) < (n : Int) := by omega
      go_wp2
      go_end0
      exact ⟨⟨_, rfl⟩, HG.out⟩


set_option maxHeartbeats 1000000 in
theorem copyEnts_any (l : List En) (v : Value) (w : World) (hv : EntsR w v l) (hl : l.length ≤ 4398046511104) :
    Calls Try.prog 9 #[v] w fun e w' => ∃ a n c, e = .returned (.slice a n c) ∧ EntsR w' (.slice a n c) l ∧ Below w.heap.size w w' ∧ ∀ b, (Value.slice a n c).ownBlock = some b → w.heap.size ≤ b := by
  have HV : Hid (Rws 4 w v (l.map enRow)) := hv
  have HB : Hid ((((([] : List (List Value)).length + (l.map enRow).length) + (([] : List (List Value)).length + (l.map enRow).length) / 4 + 192) * 48 ≤ 281474976710656) ∧ ([] : List (List Value)).length + (l.map enRow).length ≤ maxLen) := by
    unfold Hid
    rw [List.length_map]
    unfold maxLen
    simp only [List.length_nil]
    omega
  clear hv
  go_enter Try.func9, Try.ntmps9
  go_wp2_with (at_builtin; refine wpList_append_rows w rfl _ _ 22 36 _ 4 48 rfl Try.underlying22 Try.info36 rfl (by decide) w.heap.size (.slice none 0 0) [] rfl (OwnR.nil _ _ _ _) v (l.map enRow) rfl HV.out ?c1 HB.out.1 HB.out.2 (Nat.le_refl _) ?_)
  case c1 =>
    intro cs hcs u hu
    obtain ⟨s, _, rfl⟩ := List.mem_map.1 hcs
    exact enRow_one s _ (by simp) u hu
  intro v' w' hown hg
  have HT : Hid (EntsR w' v' l) := Rws.own hown
  have HL : Hid (∀ b, v'.ownBlock = some b → w.heap.size ≤ b) := fun b hb => (hown.2.lt b hb).1
  have HU : Hid (Below w.heap.size w w') := (Below.refl _ _).grown hg (Nat.le_refl _) (by simp [Value.ownBlock])
  clear hown hg
  obtain ⟨a, c, e, _, _⟩ := HT.out.len
  obtain ⟨n, hn⟩ : ∃ n, n = l.length := ⟨_, rfl⟩
  rw [← hn] at e
  subst e
  clear hn
  go_wp2
  go_ret
  exact ⟨a, n, c, rfl, HT.out, HU.out, HL.out⟩

theorem num_any (n : Int) (w : World) : Calls Try.prog 18 #[.int .i64 n] w fun e w' => e = .returned (.int .i64 n) ∧ w' = w := by
  go_enter Try.func18, Try.ntmps18
  go_wp2
  go_ret
  exact ⟨rfl, rfl⟩
end Go.Proofs.Ytibjjhceiohmeaa

/- A block with one octet that is another one. -/
namespace Go.Proofs.Ytibjjhceiohmeaa
open Go.RowKit SumPlain
set_option linter.unusedVariables false

theorem split_at (G : List Int) (p : Nat) (hp : p < G.length) : G = G.take p ++ ([G.getD p 0] ++ G.drop (p + 1)) := by
  have e : G.drop p = G.getD p 0 :: G.drop (p + 1) := by
    rw [List.drop_eq_getElem_cons hp]
    simp [List.getD, hp]
  have := List.take_append_drop p G
  rw [e] at this
  exact this.symm
theorem set_at (G : List Int) (p : Nat) (hp : p < G.length) (v : Int) : G.set p v = G.take p ++ ([v] ++ G.drop (p + 1)) := by
  rw [List.set_eq_take_append_cons_drop, if_pos hp]
  rfl
theorem octS_zero (z : BitVec 8) (h : z ≠ 0#8) : octS 0#32 z ≠ 0#32 := by
  intro e
  unfold octS at e
  have h1 := stpN_inj 8 _ e
  have h2 : top z = 0#32 := by simpa using h1
  apply h
  apply BitVec.eq_of_toNat_eq
  have h3 := congrArg BitVec.toNat h2
  unfold top at h3
  simp at h3
  have := z.isLt
  simp
  omega
theorem rot_bare (L : List Int) (hL : ∀ x ∈ guardOf L, 0 ≤ x ∧ x ≤ 255) (p : Nat) (hp : p < (guardOf L).length) (z : Int) (z1 : 1 ≤ z) (z2 : z ≤ 255) :
    bareOf ((guardOf L).set p (bits .xor .u8 ((guardOf L).getD p 0) z)) = ([], 21) := by
  have h0 : ext ones (guardOf L) = 0#32 := ext_guard ones L
  have hlen := guard_len L
  have hy := hL ((guardOf L).getD p 0) (by simp [List.getD, hp])
  generalize guardOf L = G at *
  refine bare_not _ (by rw [List.length_set]; omega) ?_
  rw [set_at G p hp]
  rw [split_at G p hp] at h0
  generalize G.getD p 0 = y at *
  generalize G.take p = A at *
  generalize G.drop (p + 1) = R at *
  rw [ext_app, ext_app] at h0 ⊢
  have s1 : ∀ (c : BitVec 32) (x : Int), ext c [x] = octS c (BitVec.ofInt 8 x) := fun c x => by
    have := ext_snoc c [] x
    rw [List.nil_append, ext_nil] at this
    exact this
  rw [s1] at h0 ⊢
  generalize ext ones A = c at *
  rw [(xor8 y z hy.1 hy.2 (by omega) z2).1]
  have e1 : octS c (BitVec.ofInt 8 y ^^^ BitVec.ofInt 8 z) = octS c (BitVec.ofInt 8 y) ^^^ octS 0#32 (BitVec.ofInt 8 z) := by
    have := oct_xor c 0#32 (BitVec.ofInt 8 y) (BitVec.ofInt 8 z)
    simpa using this
  rw [e1]
  generalize octS c (BitVec.ofInt 8 y) = P at *
  have hD : octS 0#32 (BitVec.ofInt 8 z) ≠ 0#32 := octS_zero _ (fun e => by
    have := ob_inj z 0 (by omega) z2 (by omega) (by omega) (by rw [e]; rfl)
    omega)
  generalize octS 0#32 (BitVec.ofInt 8 z) = D at *
  have e2 : ext (P ^^^ D) R = ext P R ^^^ stpN (8 * (ob R).length) D := ext_behind (ob R) P D
  rw [e2, h0]
  intro e
  apply hD
  apply stpN_inj (8 * (ob R).length)
  simpa using e
/-- The page's promise of one octet. -/
theorem rot_dec (l : List En) (h : chkB l = 0) (hL : ∀ x ∈ (encB l).1, 0 ≤ x ∧ x ≤ 255) (p : Nat) (hp : p < (encB l).1.length) (z : Int) (z1 : 1 ≤ z) (z2 : z ≤ 255) :
    decB ((encB l).1.set p (bits .xor .u8 ((encB l).1.getD p 0) z)) = ([], 21) := by
  have e : encB l = (guardOf (blockO l), 0) := by unfold encB; rw [if_pos h]
  rw [e] at hL hp ⊢
  simp only at hL hp ⊢
  unfold decB
  rw [rot_bare _ hL p hp z z1 z2]
  simp
end Go.Proofs.Ytibjjhceiohmeaa

/- What is sought in a block; how long a block of two is. -/
namespace Go.Proofs.Ytibjjhceiohmeaa
open Go.RowKit SumPlain
set_option linter.unusedVariables false
set_option linter.unusedSimpArgs false

theorem bl_self : ∀ l : List UInt8, Op.bytesLess l l = false
  | [] => rfl
  | x :: l => by simp [Op.bytesLess, bl_self l]
theorem bl_trans : ∀ a b c : List UInt8, Op.bytesLess a b = true → Op.bytesLess b c = true → Op.bytesLess a c = true
  | _, [], _, h, _ => by simp [Op.bytesLess] at h
  | _, _ :: _, [], _, h => by simp [Op.bytesLess] at h
  | [], _ :: _, _ :: _, _, _ => by simp [Op.bytesLess]
  | x :: a, y :: b, z :: c, h, k => by
    simp only [Op.bytesLess, Bool.or_eq_true, decide_eq_true_eq, Bool.and_eq_true, beq_iff_eq] at h k ⊢
    rcases h with h | ⟨rfl, h⟩
    · rcases k with k | ⟨rfl, k⟩
      · exact .inl (UInt8.lt_trans h k)
      · exact .inl h
    · rcases k with k | ⟨rfl, k⟩
      · exact .inl k
      · exact .inr ⟨rfl, bl_trans a b c h k⟩
theorem bl_total : ∀ a b : List UInt8, Op.bytesLess a b = false → Op.bytesLess b a = false → a = b
  | [], [], _, _ => rfl
  | [], _ :: _, h, _ => by simp [Op.bytesLess] at h
  | _ :: _, [], _, h => by simp [Op.bytesLess] at h
  | x :: a, y :: b, h, k => by
    simp only [Op.bytesLess, Bool.or_eq_false_iff, decide_eq_false_iff_not, Bool.and_eq_false_iff, beq_eq_false_iff_ne] at h k
    have e : x = y := UInt8.le_antisymm (UInt8.not_lt.1 k.1) (UInt8.not_lt.1 h.1)
    subst e
    have h2 : Op.bytesLess a b = false := by rcases h.2 with q | q; exact absurd rfl q; exact q
    have k2 : Op.bytesLess b a = false := by rcases k.2 with q | q; exact absurd rfl q; exact q
    rw [bl_total a b h2 k2]

theorem before_self (a : En) : beforeE a a = false := by simp [beforeE, bl_self]
theorem before_trans {a b c : En} (h : beforeE a b = true) (k : beforeE b c = true) : beforeE a c = true := by
  simp only [beforeE, Bool.or_eq_true, Bool.and_eq_true, beq_iff_eq, decide_eq_true_eq] at *
  rcases h with h | ⟨h, h'⟩
  · rcases k with k | ⟨k, k'⟩
    · exact .inl (bl_trans _ _ _ h k)
    · rw [← k]; exact .inl h
  · rcases k with k | ⟨k, k'⟩
    · rw [h]; exact .inl k
    · exact .inr ⟨h.trans k, by omega⟩

theorem ord_all : ∀ (l : List En) (p : Option En), ordE p l = 0 → (∀ x ∈ l, ∀ y, p = some y → beforeE y x = true) ∧ l.Pairwise (fun a b => beforeE a b = true)
  | [], _, _ => ⟨fun x hx => (by cases hx), List.Pairwise.nil⟩
  | z :: r, p, h => by
    unfold ordE at h
    by_cases hm : mayE z = true
    · rw [if_pos hm] at h
      by_cases ha : aheadE p z = true
      · rw [if_pos ha] at h
        obtain ⟨h1, h2⟩ := ord_all r (some z) h
        refine ⟨?_, List.Pairwise.cons (fun x hx => h1 x hx z rfl) h2⟩
        intro x hx y hy
        subst hy
        have hz : beforeE y z = true := ha
        rcases List.mem_cons.1 hx with rfl | hx
        · exact hz
        · exact before_trans hz (h1 x hx z rfl)
      · rw [if_neg ha] at h; cases h
    · rw [if_neg hm] at h; cases h
theorem chk_pairs {l : List En} (h : chkB l = 0) : l.Pairwise (fun a b => beforeE a b = true) := by
  unfold chkB at h
  by_cases hc : l.length < 1 ∨ 64 < l.length
  · rw [if_pos hc] at h; cases h
  · rw [if_neg hc] at h
    exact (ord_all l none h).2

/-- What is found is the nearest. -/
theorem first_near {l : List En} (h : chkB l = 0) {key : ByteArray} {seq : Int} {x : En} (hf : firstF l key seq = some x) :
    x ∈ l ∧ x.key.toList = key.toList ∧ x.seq ≤ seq ∧ ∀ y ∈ l, y.key.toList = key.toList → y.seq ≤ seq → y.seq ≤ x.seq := by
  have hp := chk_pairs h
  unfold firstF at hf
  rw [List.find?_eq_some_iff_append] at hf
  obtain ⟨hx, A, B, rfl, hA⟩ := hf
  simp only [Bool.and_eq_true, beq_iff_eq, decide_eq_true_eq] at hx
  refine ⟨by simp, hx.1, hx.2, ?_⟩
  intro y hy k1 k2
  rcases List.mem_append.1 hy with q | q
  · have := hA y q
    rw [k1] at this
    simp at this
    omega
  · rcases List.mem_cons.1 q with rfl | q
    · omega
    · have hb := (List.pairwise_cons.1 (List.pairwise_append.1 hp).2.1).1 y q
      unfold beforeE at hb
      rw [hx.1, k1, bl_self] at hb
      simp at hb
      omega
theorem first_not {l : List En} {key : ByteArray} {seq : Int} (hf : firstF l key seq = none) : ∀ y ∈ l, ¬ (y.key.toList = key.toList ∧ y.seq ≤ seq) := by
  intro y hy k
  unfold firstF at hf
  have := List.find?_eq_none.1 hf y hy
  apply this
  simp [k.1, k.2]

/-! ### how long -/
theorem octets_one (n : Int) (h0 : 0 ≤ n) (h1 : n ≤ 127) : (octets n).length = 1 := by
  have hc := size_cases n h0 (by omega)
  have F := octets_form n h0 (by omega)
  have hs : sizeOf n = 1 := by
    rcases hc with ⟨hs, ha, hb⟩ | ⟨hs, ha, hb⟩ | ⟨hs, ha, hb⟩ | ⟨hs, ha, hb⟩ | ⟨hs, ha, hb⟩ | ⟨hs, ha, hb⟩ | ⟨hs, ha, hb⟩ | ⟨hs, ha, hb⟩ | ⟨hs, ha, hb⟩ <;> first | exact hs | omega
  have := F.size
  omega
theorem entO_short (n : Nat) (x : En) (hk : (nums x.key).length ≤ 127) (hn : n ≤ (nums x.key).length) (hs : x.seq = 1) (hv : (nums x.val).length ≤ 127) : (entO n x).length = 5 + ((nums x.key).length - n) + (nums x.val).length := by
  unfold entO
  simp only [List.length_append, List.length_cons, List.length_drop]
  rw [octets_one _ (by omega) (by omega), octets_one _ (by omega) (by omega), octets_one _ (by omega) (by omega), octets_one _ (by omega) (by omega)]
  omega
theorem comL_own : ∀ (a l r : List Int) (x y : Int), x ≠ y → comL (a ++ x :: l) (a ++ y :: r) = a.length
  | [], l, r, x, y, h => by simp [comL, h]
  | z :: a, l, r, x, y, h => by simp [comL, comL_own a l r x y h]
/-- A block of two whose second key has a in common with the first. -/
theorem short_len (x y : En) (a l r : List Int) (p q : Int) (hpq : p ≠ q) (hx : nums x.key = a ++ p :: l) (hy : nums y.key = a ++ q :: r) (kx : (nums x.key).length ≤ 127) (ky : (nums y.key).length ≤ 127) (sx : x.seq = 1) (sy : y.seq = 1) (vx : nums x.val = []) (vy : nums y.val = [])
    (h2 : chkB [x, y] = 0) (h1 : chkB [x] = 0) (h0 : chkB [y] = 0) :
    (encB [x, y]).1.length + 7 + a.length = (encB [x]).1.length + (encB [y]).1.length := by
  unfold encB
  rw [if_pos h2, if_pos h1, if_pos h0]
  simp only [guard_len]
  have c : comL (nums x.key) (nums y.key) = a.length := by rw [hx, hy]; exact comL_own a l r p q hpq
  have l1 : a.length ≤ (nums y.key).length := by rw [hy]; simp
  have e1 := entO_short 0 x kx (by omega) sx (by rw [vx]; simp)
  have e2 := entO_short 0 y ky (by omega) sy (by rw [vy]; simp)
  have e3 := entO_short a.length y ky l1 sy (by rw [vy]; simp)
  rw [vx] at e1
  rw [vy] at e2 e3
  simp only [List.length_nil] at e1 e2 e3
  simp [blockO, bodyO, tailO, shareN, c, e1, e2, e3]
  omega
end Go.Proofs.Ytibjjhceiohmeaa
