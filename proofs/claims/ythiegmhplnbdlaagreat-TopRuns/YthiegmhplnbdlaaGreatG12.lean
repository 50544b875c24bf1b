/- Texts of layers 1 to 13, in this order. -/
import Derived.Test.YthiegmhplnbdlaaGreatG11
import Derived.Test.YthiegmhplnbdlaaGreatG09
import Derived.Test.YthiegmhplnbdlaaGreatG08
import Derived.Deep.Cut
import Derived.Test.YthiegmhplnbdlaaGreatG10
import Derived.Lib.SlBytesConst

namespace Go.Proofs.YthiegmhplnbdlaaGreat
open Go.RowKit SumPlain
set_option linter.unusedVariables false
theorem chgsOcts_append : ∀ (a b : List Chg), chgsOcts (a ++ b) = chgsOcts a ++ chgsOcts b
  | [], b => rfl
  | c :: r, b => by simp only [List.cons_append, chgsOcts, chgsOcts_append r b, List.append_assoc]
set_option maxHeartbeats 1000000 in
set_option maxRecDepth 100000 in
theorem encode_goodW (s : Int) (cs : List Chg) (a : Option Addr) (c : Nat) (w : World) (hv : ChgsR w (.slice a cs.length c) cs) (h : checkOf s cs = 0) :
    Calls Tryz.prog 23 #[.agg #[.int .i64 s, .slice a cs.length c]] w fun e w' => ∃ a' n' c', e = .returned (.tuple #[.slice a' n' c', .int .i64 0]) ∧ Hid (OwnB w' w.heap.size (.slice a' n' c') (encOf s cs)) ∧ Hid (Below w.heap.size w w') := by
  obtain ⟨hs, hn, hc⟩ := checkOf_ok h
  have HV : Hid (ChgsR w (.slice a cs.length c) cs) := hv
  have HC : Hid (Calls Tryz.prog 5 #[.agg #[.int .i64 s, .slice a cs.length c]] (w.alloc (.cells #[.int .i64 s, .slice a cs.length c] 28)) fun e w' => e = .returned (.int .i64 0) ∧ Below (w.alloc (.cells #[.int .i64 s, .slice a cs.length c] 28)).heap.size (w.alloc (.cells #[.int .i64 s, .slice a cs.length c] 28)) w') := by
    have := check_anyW s cs a c (w.alloc (.cells #[.int .i64 s, .slice a cs.length c] 28)) (hv.up (up_alloc w _))
    rw [h] at this
    exact this
  have HK : Hid (∀ ch ∈ cs, chgErr ch = 0) := hc
  have HN : Hid (cs.length ≤ 64) := hn.2
  have HL1 : Hid ((octets s).length ≤ 9) := (octets_len _ (by omega) (by omega)).2
  have HL2 : Hid ((octets (cs.length : Int)).length ≤ 9) := (octets_len _ (by omega) (by omega)).2
  have HX2 : Hid (∀ x ∈ octets (cs.length : Int), 0 ≤ x ∧ x ≤ 255) := octets_octet _ (by omega) (by omega)
  have g3 : IntKind.u64.wrap (cs.length : Int) = (cs.length : Int) := wrap_u64_id _ (by omega) (by omega)
  have g4 : IntKind.u64.wrap s = s := wrap_u64_id _ (by omega) (by omega)
  have HP1 : Hid (∀ w : World, Calls Tryz.prog 50 #[.int .u64 s] w fun e w' => ∃ v, e = .returned v ∧ OwnB w' w.heap.size v (octets s) ∧ Below w.heap.size w w') := fun w => put_any _ w (by omega) (by omega)
  have HP2 : Hid (∀ w : World, Calls Tryz.prog 50 #[.int .u64 (cs.length : Int)] w fun e w' => ∃ v, e = .returned v ∧ OwnB w' w.heap.size v (octets (cs.length : Int)) ∧ Below w.heap.size w w') := fun w => put_any _ w (by omega) (by omega)
  have B0 : Hid ((w.alloc (.cells #[.int .i64 s, .slice a cs.length c] 28)).heap[w.heap.size]? = some (.cells #[.int .i64 s, .slice a cs.length c] 28)) := blk_new w _
  have U0 : Hid (Below w.heap.size w (w.alloc (.cells #[.int .i64 s, .slice a cs.length c] 28))) := up_alloc w _
  have S0 : Hid ((w.alloc (.cells #[.int .i64 s, .slice a cs.length c] 28)).heap.size = w.heap.size + 1) := by unfold Hid; simp
  have hn64 : cs.length ≤ 64 := hn.2
  clear hv h hs hn hc
  go_enter Tryz.func23, Tryz.ntmps23
  go_wp2_with fail
  refine HC.out.mono ?_
  rintro e w1 ⟨rfl, b1⟩
  have B1 : Hid (w1.heap[w.heap.size]? = some (.cells #[.int .i64 s, .slice a cs.length c] 28)) := blk_up B0.out b1
  have U1 : Hid (Below w.heap.size w w1) := up_trans U0.out b1
  have S1 : Hid (w.heap.size + 1 ≤ w1.heap.size) := by have := b1.size; have := S0.out; unfold Hid; omega
  clear b1 B0 U0 S0 HC
  have p0 := blk_cell B1.out 0 _ rfl
  have p1 := blk_cell B1.out 1 _ rfl
  go_wp2_with fail
  refine (HP1.out w1).mono ?_
  rintro e w2 ⟨v2, rfl, o2, b2⟩
  obtain ⟨a2, n2, c2, rfl, N2⟩ := own_shape o2
  have O2 : Hid (OwnB w2 (w.heap.size + 1) (.slice a2 n2 c2) (octets s)) := OwnB.mono o2 S1.out
  have B2 : Hid (w2.heap[w.heap.size]? = some (.cells #[.int .i64 s, .slice a cs.length c] 28)) := blk_up B1.out b2
  have U2 : Hid (Below w.heap.size w w2) := up_trans U1.out b2
  have S2 : Hid (w.heap.size + 1 ≤ w2.heap.size) := Nat.le_trans S1.out b2.size
  clear b2 o2 p0 p1 B1 U1 S1
  have p0 := blk_cell B2.out 0 _ rfl
  have p1 := blk_cell B2.out 1 _ rfl
  go_wp2_with fail
  refine (HP2.out w2).mono ?_
  rintro e w3 ⟨v3, rfl, o3, b3⟩
  obtain ⟨a3, n3, c3, rfl, N3⟩ := own_shape o3
  have O3 : Hid (Octs w3 (.slice a3 n3 c3) (octets (cs.length : Int))) := Octs.own o3 HX2.out
  have V3 : Hid (OwnB w3 (w.heap.size + 1) (.slice a2 n2 c2) (octets s)) := own_up O2.out b3
  have B3 : Hid (w3.heap[w.heap.size]? = some (.cells #[.int .i64 s, .slice a cs.length c] 28)) := blk_up B2.out b3
  have U3 : Hid (Below w.heap.size w w3) := up_trans U2.out b3
  have S3 : Hid (w.heap.size + 1 ≤ w3.heap.size) := Nat.le_trans S2.out b3.size
  clear b3 o3 p0 p1 B2 U2 S2 O2
  go_wp2_with (at_builtin; refine wpList_append_octs _ rfl _ _ rfl (w.heap.size + 1) _ _ rfl V3.out _ _ rfl O3.out ?c1 S3.out ?_)
  case c1 => have := HL1.out; have := HL2.out; omega
  intro v4 w4 o4 g4'
  obtain ⟨a4, n4, c4, rfl, N4⟩ := own_shape o4
  have O4 : Hid (OwnB w4 (w.heap.size + 1) (.slice a4 n4 c4) (octets s ++ (octets (cs.length : Int) ++ chgsOcts (cs.take 0)))) := by
    unfold Hid; simpa [chgsOcts] using o4
  have B4 : Hid (w4.heap[w.heap.size]? = some (.cells #[.int .i64 s, .slice a cs.length c] 28)) := (Keep5.grown V3.out g4') _ _ _ _ B3.out (by decide)
  have U4 : Hid (Below w.heap.size w w4) := U3.out.grown g4' (by have := S3.out; omega) (fun j hj => by have := (V3.out.lt j hj).1; omega)
  have S4 : Hid (w.heap.size + 1 ≤ w4.heap.size) := Nat.le_trans S3.out g4'.size
  clear o4 g4' V3 O3 B3 U3 S3
  have p0 := blk_cell B4.out 0 _ rfl
  have p1 := blk_cell B4.out 1 _ rfl
  go_wp2
  go_loopw [27, 5] (fun i x wr => ∃ (k : Nat) (ax : Option Addr) (nx cx : Nat), k ≤ cs.length ∧ i = .int .i64 k ∧ x = .slice ax nx cx ∧ Hid (OwnB wr (w.heap.size + 1) (.slice ax nx cx) (octets s ++ (octets (cs.length : Int) ++ chgsOcts (cs.take k)))) ∧ Hid (Below w.heap.size w wr) ∧ Hid (w.heap.size + 1 ≤ wr.heap.size)) (fun i _ _ => cs.length - (intOf i).toNat)
  case atStart => exact ⟨0, _, _, _, Nat.zero_le _, rfl, rfl, O4, U4, S4⟩
  case round =>
    clear p0 p1 B4 U4 S4 O4 HP1 HP2 g3 g4
    obtain ⟨k, ax, nx, cx, hk, rfl, rfl, HO, HB, HS⟩ := hrel
    by_cases hlt : k < cs.length
    · have hlt' : (k : Int) < (cs.length : Int) := by omega
      obtain ⟨b, off, cap, ch, e, q1, q2, hcs, c0, c1, c2⟩ := (HV.out.up HB.out).at k hlt
      simp at e
      obtain ⟨rfl, rfl⟩ := e
      have HT : Hid (cs.take (k + 1) = cs.take k ++ [ch]) := by
        unfold Hid
        rw [List.take_add_one, hcs]
        rfl
      have HE : Hid (chgErr ch = 0) := HK.out ch (List.mem_of_getElem? hcs)
      have HM : Hid ((octets s ++ (octets (cs.length : Int) ++ chgsOcts (cs.take k))).length ≤ 50000) := by
        have h1 := chgsOcts_len (cs.take k) (fun d hd => HK.out d (List.mem_of_mem_take hd))
        have h2 : (cs.take k).length ≤ 64 := by rw [List.length_take]; have := HN.out; omega
        have := HL1.out; have := HL2.out
        unfold Hid
        rw [List.length_append, List.length_append]
        omega
      generalize hL : octets s ++ (octets (cs.length : Int) ++ chgsOcts (cs.take k)) = L at HO HM
      have HQ : Hid (octets s ++ (octets (cs.length : Int) ++ chgsOcts (cs.take (k + 1))) = L ++ chgOcts ch) := by
        unfold Hid
        rw [HT.out, chgsOcts_append, ← hL]
        simp [chgsOcts]
      clear hL hcs HT
      have gk : IntKind.u8.wrap (kindN ch) = kindN ch := by have := kindN_octet ch; simp [IntKind.wrap, IntKind.bits, IntKind.signed]; omega
      have D1 : Hid ((wr.alloc (.cells #[.string ch.key, .bool ch.del, .string ch.val] 75)).heap[wr.heap.size]? = some (.cells #[.string ch.key, .bool ch.del, .string ch.val] 75)) := blk_new wr _
      have HO1 : Hid (OwnB (wr.alloc (.cells #[.string ch.key, .bool ch.del, .string ch.val] 75)) (w.heap.size + 1) (.slice ax nx cx) L) := own_up HO.out (up_alloc _ _)
      have HB1 : Hid (Below w.heap.size w (wr.alloc (.cells #[.string ch.key, .bool ch.del, .string ch.val] 75))) := up_trans HB.out (up_alloc _ _)
      have HS1 : Hid (w.heap.size + 1 ≤ (wr.alloc (.cells #[.string ch.key, .bool ch.del, .string ch.val] 75)).heap.size) := le_al HS.out _
      go_wp2_with fail
      generalize wr.alloc (.cells #[.string ch.key, .bool ch.del, .string ch.val] 75) = wa at *
      refine (kindOf_any ch _).mono ?_
      rintro e w5 ⟨rfl, b5⟩
      have D5 : Hid (w5.heap[wr.heap.size]? = some (.cells #[.string ch.key, .bool ch.del, .string ch.val] 75)) := blk_up D1.out b5
      have O5 : Hid (OwnB w5 (w.heap.size + 1) (.slice ax nx cx) L) := own_up HO1.out b5
      have U5 : Hid (Below w.heap.size w w5) := up_trans HB1.out b5
      have S5 : Hid (w.heap.size + 1 ≤ w5.heap.size) := Nat.le_trans HS1.out b5.size
      have M5 : Hid (Octs (w5.alloc (.cells #[.int .u8 (kindN ch)] 5)) (.slice (some ⟨w5.heap.size, 0, none⟩) 1 1) [kindN ch]) := one_made w5 _ (by have := kindN_octet ch; omega) (by have := kindN_octet ch; omega)
      clear b5 D1 HO1 HB1 HS1 HO HB HS c0 c1 c2
      go_wp2_with (at_builtin; refine wpList_append_octs _ rfl _ _ rfl (w.heap.size + 1) _ _ rfl (own_up O5.out (up_alloc _ _)) _ [kindN ch] rfl M5.out ?c2 (le_al S5.out _) ?_)
      case c2 => have := HM.out; simp; omega
      intro v6 w6 o6 g6
      obtain ⟨a6, n6, c6, rfl, N6⟩ := own_shape o6
      have O6 : Hid (OwnB w6 (w.heap.size + 1) (.slice a6 n6 c6) (L ++ [kindN ch])) := o6
      have D6 : Hid (w6.heap[wr.heap.size]? = some (.cells #[.string ch.key, .bool ch.del, .string ch.val] 75)) := (Keep5.grown (own_up O5.out (up_alloc _ _)) g6) _ _ _ _ (blk_up D5.out (up_alloc _ _)) (by decide)
      have U6 : Hid (Below w.heap.size w w6) := (up_trans U5.out (up_alloc _ _)).grown g6 (by have := S5.out; simp; omega) (fun j hj => by have := ((own_up O5.out (up_alloc w5 (.cells #[.int .u8 (kindN ch)] 5))).lt j hj).1; omega)
      have S6 : Hid (w.heap.size + 1 ≤ w6.heap.size) := Nat.le_trans (le_al S5.out _) g6.size
      clear o6 g6 O5 D5 U5 S5 M5
      have r0 := blk_cell D6.out 0 _ rfl
      go_wp2_with fail
      refine (appText_any _ _ ch.key w6 _ O6.out S6.out (by have := (chgErr_ok HE.out).2.1; omega) (by have := HM.out; simp; omega)).mono ?_
      rintro e w7 ⟨a7, n7, c7, rfl, O7, B7, K7⟩
      have D7 : Hid (w7.heap[wr.heap.size]? = some (.cells #[.string ch.key, .bool ch.del, .string ch.val] 75)) := K7.out _ _ _ _ D6.out (by decide)
      have U7 : Hid (Below w.heap.size w w7) := U6.out.trans (B7.out.mono (by omega))
      have S7 : Hid (w.heap.size + 1 ≤ w7.heap.size) := Nat.le_trans S6.out B7.out.size
      clear r0 O6 D6 U6 S6 B7 K7
      have r1 := blk_cell D7.out 1 _ rfl
      have r2 := blk_cell D7.out 2 _ rfl
      cases hd : ch.del with
      | true =>
        rw [hd] at r1
        have HQ2 : Hid (OwnB w7 (w.heap.size + 1) (.slice a7 n7 c7) (octets s ++ (octets (cs.length : Int) ++ chgsOcts (cs.take (k + 1))))) := by
          have h1 := O7.out
          unfold Hid
          rw [HQ.out]
          have : L ++ [kindN ch] ++ textOf ch.key = L ++ chgOcts ch := by
            unfold chgOcts
            rw [hd]
            simp
          rw [← this]
          exact h1
        clear O7 D7 HQ
        go_wp2
        exact ⟨⟨k + 1, _, _, _, hlt, by go_num, rfl, HQ2, U7, S7⟩, by simp [intOf]; omega⟩
      | false =>
        rw [hd] at r1
        go_wp2_with fail
        refine (appText_any _ _ ch.val w7 _ O7.out S7.out (by have := (chgErr_ok HE.out).2.2.1; omega) (by have := HM.out; have := textOf_len ch.key (by have := (chgErr_ok HE.out).2.1; omega); have := (chgErr_ok HE.out).2.1; simp; omega)).mono ?_
        rintro e w8 ⟨a8, n8, c8, rfl, O8, B8, K8⟩
        have U8 : Hid (Below w.heap.size w w8) := U7.out.trans (B8.out.mono (by omega))
        have S8 : Hid (w.heap.size + 1 ≤ w8.heap.size) := Nat.le_trans S7.out B8.out.size
        have HQ2 : Hid (OwnB w8 (w.heap.size + 1) (.slice a8 n8 c8) (octets s ++ (octets (cs.length : Int) ++ chgsOcts (cs.take (k + 1))))) := by
          have h1 := O8.out
          unfold Hid
          rw [HQ.out]
          have : L ++ [kindN ch] ++ textOf ch.key ++ textOf ch.val = L ++ chgOcts ch := by
            unfold chgOcts
            rw [hd]
            simp
          rw [← this]
          exact h1
        clear O7 D7 O8 HQ K8 B8 r1 r2
        go_wp2
        exact ⟨⟨k + 1, _, _, _, hlt, by go_num, rfl, HQ2, U8, S8⟩, by simp [intOf]; omega⟩
    · have hlt' : ¬ (k : Int) < (cs.length : Int) := by omega
      have HQ2 : Hid (OwnB wr w.heap.size (.slice ax nx cx) (encOf s cs)) := by
        have h1 := HO.out
        rw [List.take_of_length_le (by omega)] at h1
        exact OwnB.mono h1 (by omega)
      clear HO
      go_wp2
      go_ret2
      exact ⟨_, _, _, rfl, HQ2, HB⟩
end Go.Proofs.YthiegmhplnbdlaaGreat

namespace Go.Proofs.YthiegmhplnbdlaaGreat
open Go.RowKit SumPlain
set_option linter.unusedVariables false
set_option linter.unusedSimpArgs false
theorem encB_oct (l : List En) : OctL (encB l).1 := by
  unfold encB
  by_cases h : chkB l = 0
  · rw [if_pos h]
    obtain ⟨_, _, hm⟩ := chkB_may h
    refine guard_octet _ ?_
    unfold blockO
    refine OctL.app (bodyO_oct l 0 [] hm) (OctL.app (tailO_oct l 0 [] 0) ?_)
    intro y hy
    simp at hy
    omega
  · rw [if_neg h]
    intro y hy
    cases hy
theorem bare_oct {l : List Int} (h : OctL l) : OctL (bareOf l).1 := by
  unfold bareOf
  split
  · intro y hy; cases hy
  · split
    · exact fun y hy => h y (List.mem_of_mem_take hy)
    · intro y hy; cases hy
theorem bare_le (l : List Int) : (bareOf l).1.length ≤ l.length := by
  unfold bareOf
  split
  · simp
  · split
    · simp
    · simp
end Go.Proofs.YthiegmhplnbdlaaGreat

namespace Go.Proofs.YthiegmhplnbdlaaGreat
open Go.RowKit
set_option linter.unusedVariables false
set_option linter.unusedSimpArgs false
theorem results_ent {fn : Func} {q r : Nat} (h : fn.results = #[.cell q 50, .tmp r]) (tmps : Array Value) (w : World) {N : Nat} {a b c d : Value} (ht : tmps.getD q undef = .pointer (some ⟨N, 0, none⟩))
    (hc : w.heap[N]? = some (.cells #[a, b, c, d] 50)) : (results fn tmps).run Tryz.prog w = .ok (.tuple #[.agg #[a, b, c, d], tmps.getD r undef]) w := by
  have c0 := blk_cell hc 0 a rfl
  have c1 := blk_cell hc 1 b rfl
  have c2 := blk_cell hc 2 c rfl
  have c3 := blk_cell hc 3 d rfl
  have ht' : tmps[q]?.getD undef = .pointer (some ⟨N, 0, none⟩) := by simpa using ht
  simp only [results, h]
  simp [ht', go_sem, c0, c1, c2, c3]
theorem set4_blk {w : World} {N : Nat} {t : TypeId} {x0 x1 x2 x3 : Value} (h : w.heap[N]? = some (.cells #[x0, x1, x2, x3] t)) (a b c d : Value) : ((((w.setCell ⟨N, 0, none⟩ a).setCell ⟨N, 1, none⟩ b).setCell ⟨N, 2, none⟩ c).setCell ⟨N, 3, none⟩ d).heap[N]? = some (.cells #[a, b, c, d] t) := by
  have := blk_set (blk_set (blk_set (blk_set h 0 a) 1 b) 2 c) 3 d
  simpa only [List.setIfInBounds_toArray, List.set_cons_zero, List.set_cons_succ] using this
theorem set4_grown (w : World) (N : Nat) (a b c d : Value) : w.grownBy ((((w.setCell ⟨N, 0, none⟩ a).setCell ⟨N, 1, none⟩ b).setCell ⟨N, 2, none⟩ c).setCell ⟨N, 3, none⟩ d) (some N) :=
  grown_trans (grown_trans (grown_trans (grown_set w ⟨N, 0, none⟩ a) (grown_set _ ⟨N, 1, none⟩ b)) (grown_set _ ⟨N, 2, none⟩ c)) (grown_set _ ⟨N, 3, none⟩ d)
instance : Inhabited En := ⟨⟨⟨#[]⟩, 0, 0, ⟨#[]⟩⟩⟩
def firstF (l : List En) (key : ByteArray) (seq : Int) : Option En := l.find? fun e => (e.key.toList == key.toList) && decide (e.seq ≤ seq)
def firstV (l : List En) (key : ByteArray) (seq : Int) : En × Bool := match firstF l key seq with | none => (default, false) | some y => (y, true)
theorem firstF_drop {l : List En} {key : ByteArray} {seq : Int} {i : Nat} {y : En} (h : l[i]? = some y) : firstF (l.drop i) key seq = if ((y.key.toList == key.toList) && decide (y.seq ≤ seq)) = true then some y else firstF (l.drop (i + 1)) key seq := by
  have hi := (List.getElem?_eq_some_iff.1 h).1
  rw [List.drop_eq_getElem_cons hi, (List.getElem?_eq_some_iff.1 h).2]
  unfold firstF
  rw [List.find?_cons]
  cases q : ((y.key.toList == key.toList) && decide (y.seq ≤ seq)) <;> simp
end Go.Proofs.YthiegmhplnbdlaaGreat

namespace Go.Proofs.YthiegmhplnbdlaaGreat
open Go.RowKit SumPlain
set_option linter.unusedVariables false
set_option linter.unusedSimpArgs false
theorem results_ent3 {fn : Func} {q r u : Nat} (h : fn.results = #[.cell q 50, .tmp r, .tmp u]) (tmps : Array Value) (w : World) {N : Nat} {a b c d : Value} (ht : tmps.getD q undef = .pointer (some ⟨N, 0, none⟩))
    (hc : w.heap[N]? = some (.cells #[a, b, c, d] 50)) : (results fn tmps).run Tryz.prog w = .ok (.tuple #[.agg #[a, b, c, d], tmps.getD r undef, tmps.getD u undef]) w := by
  have c0 := blk_cell hc 0 a rfl
  have c1 := blk_cell hc 1 b rfl
  have c2 := blk_cell hc 2 c rfl
  have c3 := blk_cell hc 3 d rfl
  have ht' : tmps[q]?.getD undef = .pointer (some ⟨N, 0, none⟩) := by simpa using ht
  simp only [results, h]
  simp [ht', go_sem, c0, c1, c2, c3]
end Go.Proofs.YthiegmhplnbdlaaGreat





namespace Go.Proofs.YthiegmhplnbdlaaGreat
open Go.RowKit SumPlain
set_option linter.unusedVariables false
theorem Tryz.info75 : (Tryz.prog.info? 75).map (fun i => (i.zero, i.size, i.bytes)) = some (some (.agg #[.string ⟨#[]⟩, .bool false, .string ⟨#[]⟩]), 3, 40) := by kernel_rfl
theorem crow_one (cs : List Chg) : ∀ r ∈ cs.map crow, ∀ u ∈ r, u.oneCell' = true := by
  intro r hr u hu
  obtain ⟨c, _, rfl⟩ := List.mem_map.1 hr
  simp [crow] at hu
  rcases hu with rfl | rfl | rfl <;> rfl
def OwnC (w : World) (base : Nat) (v : Value) (cs : List Chg) : Prop := OwnR w base 75 3 v (cs.map crow)
theorem OwnC.read {w : World} {base : Nat} {v : Value} {cs : List Chg} (h : OwnC w base v cs) : ChgsR w v cs := Rws.own h
theorem OwnC.shape {w : World} {base : Nat} {v : Value} {cs : List Chg} (h : OwnC w base v cs) : ∃ a c, v = .slice a cs.length c := by
  obtain ⟨a, c, e, _, _⟩ := h.read.len
  exact ⟨a, c, e⟩
theorem results_bat {fn : Func} {t : TypeId} (h : fn.results = #[.cell 2 t]) (hl : t = 28 ∨ t = 28) (tmps : Array Value) (w : World) {N : Nat} {a b : Value} (ht : tmps.getD 2 undef = .pointer (some ⟨N, 0, none⟩))
    (hc : w.heap[N]? = some (.cells #[a, b] t)) : (results fn tmps).run Tryz.prog w = .ok (.agg #[a, b]) w := by
  have c0 := blk_cell hc 0 a rfl
  have c1 := blk_cell hc 1 b rfl
  have ht' : tmps[2]?.getD undef = .pointer (some ⟨N, 0, none⟩) := by simpa using ht
  rcases hl with rfl | rfl
  · simp only [results, h]
    simp [ht', go_sem, c0, c1]
  · simp only [results, h]
    simp [ht', go_sem, c0, c1]
theorem OwnC.kept {w w' : World} {base : Nat} {v : Value} {cs : List Chg} {r : Option Nat} (h : OwnC w base v cs) (hg : w.grownBy w' r) (hr : ∀ g, r = some g → g < base) : OwnC w' base v cs :=
  OwnR.far h hg (by
    cases hb : v.ownBlock with
    | none => exact .inl rfl
    | some g =>
      refine .inr fun e => ?_
      have := hr g e.symm
      have := (h.2.lt g hb).1
      omega)
theorem OwnC.up {w w' : World} {base : Nat} {v : Value} {cs : List Chg} (h : OwnC w base v cs) (hb : Below w.heap.size w w') : OwnC w' base v cs := OwnR.up h hb
theorem OwnC.mono {w : World} {base base' : Nat} {v : Value} {cs : List Chg} (h : OwnC w base v cs) (hb : base' ≤ base) : OwnC w base' v cs := OwnR.mono h hb
end Go.Proofs.YthiegmhplnbdlaaGreat

namespace Go.Proofs.YthiegmhplnbdlaaGreat
open Go.RowKit SumPlain
set_option linter.unusedVariables false
def erow (s : Int) (c : Chg) : List Value := [.string c.key, .int .i64 s, .int .i64 (kindN c), .string c.val]
def entL (s : Int) : List Chg → List (List Value)
  | [] => []
  | c :: r => erow s c :: entL (s + 1) r
theorem entL_len (s : Int) : ∀ (cs : List Chg), (entL s cs).length = cs.length := by
  intro cs
  induction cs generalizing s with
  | nil => rfl
  | cons c r ih => simp [entL, ih]
theorem entL_append (s : Int) : ∀ (a b : List Chg), entL s (a ++ b) = entL s a ++ entL (s + (a.length : Int)) b := by
  intro a
  induction a generalizing s with
  | nil => intro b; simp [entL]
  | cons c r ih =>
    intro b
    simp only [List.cons_append, entL, ih, List.length_cons]
    congr 3
    omega
theorem OwnR.keep {w w' : World} {base : Nat} {e t : TypeId} {sz : Nat} {v : Value} {css : List (List Value)} {B : Nat} {cs : Array Value} {fr : Nat × Nat} (h : OwnR w base e sz v css) (hg : w.grownBy w' v.ownBlock) (hb : w.heap[B]? = some (.cells cs t fr)) (hne : e ≠ t) : w'.heap[B]? = some (.cells cs t fr) :=
  blk_grown hb hg (fun q => by
    rcases own_blk_ne h.2 hb hne with r | r
    · rw [r] at q; cases q
    · exact r q.symm)
theorem OwnR.shape {w : World} {base : Nat} {e : TypeId} {sz : Nat} {v : Value} {css : List (List Value)} (h : OwnR w base e sz v css) : ∃ a n c, v = .slice a n c := by
  obtain ⟨a, c, e, _⟩ := (Rws.own h).len
  exact ⟨a, _, c, e⟩
set_option maxHeartbeats 1000000 in
set_option maxRecDepth 100000 in
theorem entries_good (s : Int) (cs : List Chg) (a : Option Addr) (c : Nat) (w : World) (hv : ChgsR w (.slice a cs.length c) cs) (h : checkOf s cs = 0) :
    Calls Tryz.prog 9 #[.agg #[.int .i64 s, .slice a cs.length c]] w fun e w' => ∃ a' n' c', e = .returned (.tuple #[.slice a' n' c', .int .i64 0]) ∧ Hid (OwnR w' w.heap.size 50 4 (.slice a' n' c') (entL s cs)) ∧ Hid (Below w.heap.size w w') := by
  obtain ⟨hs, hn, hc⟩ := checkOf_ok h
  have HV : Hid (ChgsR w (.slice a cs.length c) cs) := hv
  have HC : Hid (Calls Tryz.prog 5 #[.agg #[.int .i64 s, .slice a cs.length c]] (w.alloc (.cells #[.int .i64 s, .slice a cs.length c] 28)) fun e w' => e = .returned (.int .i64 0) ∧ Below (w.alloc (.cells #[.int .i64 s, .slice a cs.length c] 28)).heap.size (w.alloc (.cells #[.int .i64 s, .slice a cs.length c] 28)) w') := by
    have := check_anyW s cs a c (w.alloc (.cells #[.int .i64 s, .slice a cs.length c] 28)) (hv.up (up_alloc w _))
    rw [h] at this
    exact this
  have B0 : Hid ((w.alloc (.cells #[.int .i64 s, .slice a cs.length c] 28)).heap[w.heap.size]? = some (.cells #[.int .i64 s, .slice a cs.length c] 28)) := blk_new w _
  have U0 : Hid (Below w.heap.size w (w.alloc (.cells #[.int .i64 s, .slice a cs.length c] 28))) := up_alloc w _
  have S0 : Hid ((w.alloc (.cells #[.int .i64 s, .slice a cs.length c] 28)).heap.size = w.heap.size + 1) := by unfold Hid; simp
  have hn64 : cs.length ≤ 64 := hn.2
  clear hv h hn hc
  go_enter Tryz.func9, Tryz.ntmps9
  go_wp2_with fail
  refine HC.out.mono ?_
  rintro e w1 ⟨rfl, b1⟩
  have B1 : Hid (w1.heap[w.heap.size]? = some (.cells #[.int .i64 s, .slice a cs.length c] 28)) := blk_up B0.out b1
  have U1 : Hid (Below w.heap.size w w1) := up_trans U0.out b1
  have S1 : Hid (w.heap.size + 1 ≤ w1.heap.size) := by have := b1.size; have := S0.out; unfold Hid; omega
  clear b1 B0 U0 S0 HC
  have p0 := blk_cell B1.out 0 _ rfl
  have p1 := blk_cell B1.out 1 _ rfl
  go_wp2
  go_loopw [16, 5] (fun i x wr => ∃ (k : Nat) (ax : Option Addr) (nx cx : Nat), k ≤ cs.length ∧ i = .int .i64 k ∧ x = .slice ax nx cx ∧ Hid (OwnR wr (w.heap.size + 1) 50 4 (.slice ax nx cx) (entL s (cs.take k))) ∧ Hid (Below w.heap.size w wr) ∧ Hid (wr.heap[w.heap.size]? = some (.cells #[.int .i64 s, .slice a cs.length c] 28))) (fun i _ _ => cs.length - (intOf i).toNat)
  case atStart => exact ⟨0, _, _, _, Nat.zero_le _, rfl, rfl, OwnR.nil _ _ _ _, U1, B1⟩
  case round =>
    clear p0 p1 B1 U1 S1
    obtain ⟨k, ax, nx, cx, hk, rfl, rfl, HO, HB, HD⟩ := hrel
    by_cases hlt : k < cs.length
    · have hlt' : (k : Int) < (cs.length : Int) := by omega
      obtain ⟨b, off, cap, ch, e, q1, q2, hcs, c0, c1, c2⟩ := (HV.out.up HB.out).at k hlt
      simp at e
      obtain ⟨rfl, rfl⟩ := e
      have HT : Hid (entL s (cs.take (k + 1)) = entL s (cs.take k) ++ [erow (s + (k : Int)) ch]) := by
        unfold Hid
        rw [List.take_add_one, hcs, entL_append, List.length_take, Nat.min_eq_left (by omega)]
        rfl
      have HM : Hid ((entL s (cs.take k)).length ≤ 64) := by
        unfold Hid
        rw [entL_len, List.length_take]; omega
      generalize hL : entL s (cs.take k) = L at HO HM HT
      clear hL hcs
      have gw : IntKind.i64.wrap (s + (k : Int)) = s + (k : Int) := wrap64_id _ (by omega) (by omega)
      obtain ⟨ck, cd, cv⟩ := ch
      have D1 : Hid ((wr.alloc (.cells #[.string ck, .bool cd, .string cv] 75)).heap[wr.heap.size]? = some (.cells #[.string ck, .bool cd, .string cv] 75)) := blk_new wr _
      have E1 : Hid ((wr.alloc (.cells #[.string ck, .bool cd, .string cv] 75)).heap[w.heap.size]? = some (.cells #[.int .i64 s, .slice (some ⟨b, off, none⟩) cs.length c] 28)) := blk_up HD.out (up_alloc _ _)
      have HO1 : Hid (OwnR (wr.alloc (.cells #[.string ck, .bool cd, .string cv] 75)) (w.heap.size + 1) 50 4 (.slice ax nx cx) L) := HO.out.up (up_alloc _ _)
      have HB1 : Hid (Below w.heap.size w (wr.alloc (.cells #[.string ck, .bool cd, .string cv] 75))) := up_trans HB.out (up_alloc _ _)
      generalize hk' : kindN ⟨ck, cd, cv⟩ = kd at *
      have HK : Hid (∀ wx, Calls Tryz.prog 27 #[.agg #[.string ck, .bool cd, .string cv]] wx fun e w' => e = .returned (.int .i64 kd) ∧ Below wx.heap.size wx w') := fun wx => hk' ▸ kindOf_any ⟨ck, cd, cv⟩ wx
      go_wp2_with fail
      generalize wr.alloc (.cells #[.string ck, .bool cd, .string cv] 75) = wa at *
      have SA : Hid (w.heap.size + 1 ≤ wa.heap.size) := blk_lt E1.out
      have HK2 : Hid (Calls Tryz.prog 27 #[.agg #[.string ck, .bool cd, .string cv]] wa.drew fun e w' => e = .returned (.int .i64 kd) ∧ w'.cell? ⟨wr.heap.size, 0, none⟩ = some (.string ck) ∧ w'.cell? ⟨wr.heap.size, 1, none⟩ = some (.bool cd) ∧ w'.cell? ⟨wr.heap.size, 2, none⟩ = some (.string cv) ∧ w'.cell? ⟨w.heap.size, 0, none⟩ = some (.int .i64 s) ∧ Hid (∀ o, (w'.alloc o).cell? ⟨wr.heap.size, 0, none⟩ = some (.string ck) ∧ (w'.alloc o).cell? ⟨wr.heap.size, 1, none⟩ = some (.bool cd) ∧ (w'.alloc o).cell? ⟨wr.heap.size, 2, none⟩ = some (.string cv) ∧ (w'.alloc o).cell? ⟨w.heap.size, 0, none⟩ = some (.int .i64 s)) ∧
          Hid (∀ o, (w'.alloc o).heap[wr.heap.size]? = some (.cells #[.string ck, .bool cd, .string cv] 75)) ∧ Hid (∀ o, (w'.alloc o).heap[w.heap.size]? = some (.cells #[.int .i64 s, .slice (some ⟨b, off, none⟩) cs.length c] 28)) ∧ Hid (∀ o, OwnR (w'.alloc o) (w.heap.size + 1) 50 4 (.slice ax nx cx) L) ∧ Hid (∀ o, Below w.heap.size w (w'.alloc o)) ∧ Hid (∀ o, w.heap.size + 1 ≤ (w'.alloc o).heap.size) ∧ Hid (∀ o w3, (w'.alloc o).grownBy w3 (Value.slice ax nx cx).ownBlock → w3.heap[wr.heap.size]? = some (.cells #[.string ck, .bool cd, .string cv] 75) ∧ w3.heap[w.heap.size]? = some (.cells #[.int .i64 s, .slice (some ⟨b, off, none⟩) cs.length c] 28) ∧ Below w.heap.size w w3 ∧ w3.cell? ⟨wr.heap.size, 0, none⟩ = some (.string ck) ∧ w3.cell? ⟨wr.heap.size, 1, none⟩ = some (.bool cd) ∧ w3.cell? ⟨wr.heap.size, 2, none⟩ = some (.string cv) ∧ w3.cell? ⟨w.heap.size, 0, none⟩ = some (.int .i64 s))) := by
        refine (HK.out wa.drew).mono ?_
        rintro e w' ⟨rfl, hb⟩
        have hb' : Below wa.heap.size wa w' := (Below.refl _ _).drew.trans hb
        have d1 := blk_up D1.out hb'
        have e1 := blk_up E1.out hb'
        have d2 : ∀ o, (w'.alloc o).heap[wr.heap.size]? = some (.cells #[.string ck, .bool cd, .string cv] 75) := fun o => blk_up d1 (up_alloc w' o)
        have e2 : ∀ o, (w'.alloc o).heap[w.heap.size]? = some (.cells #[.int .i64 s, .slice (some ⟨b, off, none⟩) cs.length c] 28) := fun o => blk_up e1 (up_alloc w' o)
        refine ⟨rfl, blk_cell d1 0 _ rfl, blk_cell d1 1 _ rfl, blk_cell d1 2 _ rfl, blk_cell e1 0 _ rfl, fun o => ⟨blk_cell (d2 o) 0 _ rfl, blk_cell (d2 o) 1 _ rfl, blk_cell (d2 o) 2 _ rfl, blk_cell (e2 o) 0 _ rfl⟩, d2, e2, fun o => (HO1.out.up hb').up (up_alloc _ _), fun o => up_al (up_trans HB1.out hb') _, fun o => le_al (Nat.le_trans SA.out hb'.size) _, fun o w3 g3 => ?_⟩
        have ho := (HO1.out.up hb').up (up_alloc w' o)
        have d3 := OwnR.keep ho g3 (d2 o) (by decide)
        have e3 := OwnR.keep ho g3 (e2 o) (by decide)
        refine ⟨d3, e3, (up_al (up_trans HB1.out hb') o).grown g3 ?_ ?_, blk_cell d3 0 _ rfl, blk_cell d3 1 _ rfl, blk_cell d3 2 _ rfl, blk_cell e3 0 _ rfl⟩
        · have := le_al (Nat.le_trans SA.out hb'.size) o; omega
        · intro j hj; have := (ho.2.lt j hj).1; omega
      have z0 := blk_cell D1.out 0 _ rfl
      have z1 := blk_cell D1.out 1 _ rfl
      have z2 := blk_cell D1.out 2 _ rfl
      have z3 := blk_cell E1.out 0 _ rfl
      have HM1 : Hid (((L.length + [[Value.string ck, .int .i64 (s + (k : Int)), .int .i64 kd, .string cv]].length) + (L.length + [[Value.string ck, .int .i64 (s + (k : Int)), .int .i64 kd, .string cv]].length) / 4 + 192) * 48 ≤ 281474976710656) := by have := HM.out; unfold Hid; simp; omega
      have HM2 : Hid (L.length + [[Value.string ck, .int .i64 (s + (k : Int)), .int .i64 kd, .string cv]].length ≤ maxLen) := by have := HM.out; unfold Hid maxLen; simp; omega
      have HR : Hid (∀ w' : World, Rws 4 (w'.alloc (.cells #[.string ck, .int .i64 (s + (k : Int)), .int .i64 kd, .string cv] 50)) (.slice (some ⟨w'.heap.size, 0, none⟩) 1 1) [[.string ck, .int .i64 (s + (k : Int)), .int .i64 kd, .string cv]]) := fun w' => Rws.made (sz := 4) w' 50 [[.string ck, .int .i64 (s + (k : Int)), .int .i64 kd, .string cv]] (by simp) (by simp [maxLen])
      have H1 : Hid (∀ r ∈ [[Value.string ck, .int .i64 (s + (k : Int)), .int .i64 kd, .string cv]], ∀ u ∈ r, u.oneCell' = true) := by
        intro r hr u hu
        simp at hr
        subst hr
        simp at hu
        rcases hu with rfl | rfl | rfl | rfl <;> rfl
      go_region_held3 (fun w' => w'.cell? ⟨wr.heap.size, 0, none⟩ = some (.string ck) ∧ w'.cell? ⟨wr.heap.size, 1, none⟩ = some (.bool cd) ∧ w'.cell? ⟨wr.heap.size, 2, none⟩ = some (.string cv) ∧ w'.cell? ⟨w.heap.size, 0, none⟩ = some (.int .i64 s)) (first | with_reducible exact ⟨x0, x1, x2, x3⟩ | with_reducible exact ⟨y0, y1, y2, y3⟩ | with_reducible exact yy.out _ | with_reducible exact ⟨z0, z1, z2, z3⟩ | (simp [go_sem, z0, z1, z2, z3]; done)) (first
        | (go_at_call 27; with_reducible refine HK2.out.mono ?_; rintro e w' ⟨rfl, y0, y1, y2, y3, yy, d2, e2, o2, u2, s2, f2⟩)
        | (refine step_append_rows _ (by rfl) _ _ 42 50 _ 4 48 (by rfl) Tryz.underlying42 Tryz.info50 (by rfl) (by decide) (w.heap.size + 1) (.slice ax nx cx) L (by rfl) (o2.out _) (.slice (some ⟨w'.heap.size, 0, none⟩) 1 1) [[.string ck, .int .i64 (s + (k : Int)), .int .i64 kd, .string cv]] (by rfl) (HR.out _) H1.out HM1.out HM2.out (s2.out _) ?_; intro v3 w3 o3 g3; obtain ⟨D3, E3, U3', x0, x1, x2, x3⟩ := f2.out _ _ g3; obtain ⟨a3, n3, c3, rfl⟩ := OwnR.shape o3; have U3 : Hid (Below w.heap.size w w3) := U3'))
      all_goals
        have HQ2 : Hid (OwnR w3 (w.heap.size + 1) 50 4 (.slice a3 n3 c3) (entL s (cs.take (k + 1)))) := by
          unfold Hid
          rw [HT.out]
          unfold erow
          rw [hk']
          exact o3
        have E4 : Hid (w3.heap[w.heap.size]? = some (.cells #[.int .i64 s, .slice (some ⟨b, off, none⟩) cs.length c] 28)) := E3
        clear o3 g3 D3 E3 x0 x1 x2 x3 d2 e2 o2 u2 s2 f2 yy U3'
        go_wp2
        exact ⟨⟨k + 1, _, _, _, hlt, by go_num, rfl, HQ2, U3, E4⟩, by simp [intOf]; omega⟩
    · have hlt' : ¬ (k : Int) < (cs.length : Int) := by omega
      have HQ2 : Hid (OwnR wr w.heap.size 50 4 (.slice ax nx cx) (entL s cs)) := by
        have h1 := HO.out
        rw [List.take_of_length_le (by omega)] at h1
        exact h1.mono (by omega)
      clear HO
      go_wp2
      go_ret2
      exact ⟨_, _, _, rfl, HQ2, HB⟩
end Go.Proofs.YthiegmhplnbdlaaGreat

namespace Go.Proofs.YthiegmhplnbdlaaGreat
open Go.RowKit
set_option linter.unusedVariables false
set_option linter.unusedSimpArgs false
instance inhEnS : Inhabited En := ⟨⟨⟨#[]⟩, 0, 0, ⟨#[]⟩⟩⟩
def posF (l : List En) (x : En) (out : List Nat) : Nat := out.findIdx fun k => !beforeE (l.getD k default) x
def insF (l : List En) (out : List Nat) (i : Nat) : List Nat := out.take (posF l (l.getD i default) out) ++ [i] ++ out.drop (posF l (l.getD i default) out)
def orderF (l : List En) : Nat → List Nat
  | 0 => []
  | n + 1 => insF l (orderF l n) n
theorem posF_le (l : List En) (x : En) (out : List Nat) : posF l x out ≤ out.length := List.findIdx_le_length
theorem orderF_len (l : List En) : ∀ n, (orderF l n).length = n := by
  intro n
  induction n with
  | zero => rfl
  | succ n ih =>
    have := posF_le l (l.getD n default) (orderF l n)
    simp only [orderF, insF, List.length_append, List.length_take, List.length_drop, List.length_cons, List.length_nil, ih] at *
    omega
theorem orderF_lt (l : List En) : ∀ n j, j ∈ orderF l n → j < n := by
  intro n
  induction n with
  | zero => intro j h; cases h
  | succ n ih =>
    intro j h
    simp only [orderF, insF, List.mem_append, List.mem_singleton] at h
    rcases h with (h | h) | h
    · have := ih j (List.mem_of_mem_take h); omega
    · omega
    · have := ih j (List.mem_of_mem_drop h); omega
def nrow (p : En × Value) : List Value := enRow p.1 ++ [p.2]
def NodesE (w : World) (v : Value) (es : List (En × Value)) : Prop := Rws 5 w v (es.map nrow)
theorem NodesE.up {w w' : World} {v : Value} {es : List (En × Value)} (h : NodesE w v es) (hb : Below w.heap.size w w') : NodesE w' v es := Rws.up h hb
theorem NodesE.len {w : World} {v : Value} {es : List (En × Value)} (h : NodesE w v es) : ∃ a cap, v = .slice a es.length cap ∧ es.length ≤ cap ∧ cap ≤ maxLen := by
  obtain ⟨a, c, e, h1, h2⟩ := Rws.len h
  simp only [List.length_map] at e h1
  exact ⟨a, c, e, h1, h2⟩
theorem NodesE.at {w : World} {v : Value} {es : List (En × Value)} (h : NodesE w v es) (k : Nat) (hk : k < es.length) :
    ∃ b off cap n s, v = .slice (some ⟨b, off, none⟩) es.length cap ∧ es[k]? = some (n, s) ∧ w.cell? ⟨b, off + k * 5, none⟩ = some (.string n.key) ∧ w.cell? ⟨b, off + k * 5 + 1, none⟩ = some (.int .i64 n.seq) ∧ w.cell? ⟨b, off + k * 5 + 2, none⟩ = some (.int .i64 n.kind) ∧ w.cell? ⟨b, off + k * 5 + 3, none⟩ = some (.string n.val) ∧ w.cell? ⟨b, off + k * 5 + 4, none⟩ = some s := by
  obtain ⟨b, off, cap, e, _, _, hc⟩ := Rws.at h k (by simpa using hk)
  simp only [List.length_map] at e
  have hg : (es.map nrow).getD k [] = nrow es[k] := by simp [List.getD, hk]
  rw [hg] at hc
  refine ⟨b, off, cap, es[k].1, es[k].2, e, by simp [hk], ?_, ?_, ?_, ?_, ?_⟩
  · simpa using hc 0 _ rfl
  · simpa using hc 1 _ rfl
  · simpa using hc 2 _ rfl
  · simpa using hc 3 _ rfl
  · simpa using hc 4 _ rfl
theorem Rws.dropN {sz : Nat} {w : World} {b off n cap : Nat} {css : List (List Value)} (h : Rws sz w (.slice (some ⟨b, off, none⟩) n cap) css) (p : Nat) (hp : p ≤ css.length) : Rws sz w (.slice (some ⟨b, off + p * sz, none⟩) (n - p) (cap - p)) (css.drop p) := by
  obtain ⟨h1, a, c, e, h2, h3, _, h5⟩ := h
  simp only [Value.slice.injEq] at e
  obtain ⟨rfl, rfl, rfl⟩ := e
  refine ⟨fun cs hc => h1 cs (List.mem_of_mem_drop hc), _, _, by rw [List.length_drop], by rw [List.length_drop]; omega, by omega, by simp, ?_⟩
  intro hne
  have hcs : css ≠ [] := by intro e; rw [e] at hne; simp at hne
  obtain ⟨b', off', e', hc⟩ := h5 hcs
  simp only [Option.some.injEq, Addr.mk.injEq] at e'
  obtain ⟨rfl, rfl, _⟩ := e'
  refine ⟨b, off + p * sz, rfl, ?_⟩
  intro j cs hj i u hu
  rw [List.getElem?_drop] at hj
  have := hc (p + j) cs hj i u hu
  rw [Nat.add_mul] at this
  rw [Nat.add_assoc off]
  exact this
end Go.Proofs.YthiegmhplnbdlaaGreat
