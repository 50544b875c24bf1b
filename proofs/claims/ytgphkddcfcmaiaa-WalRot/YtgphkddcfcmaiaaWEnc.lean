/- Check and Encode of layer 6: what they answer for any batch whose changes are read. -/
import Derived.Test.YtgphkddcfcmaiaaWLeaf
namespace Go.Proofs.Ytgphkddcfcmaiaa
open Go.RowKit SumPlain
set_option linter.unusedVariables false

/-- Blocks that are not of octets are as they were. -/
def Keep5 (w w' : World) : Prop := ∀ (B : Nat) (cs : Array Value) (t : TypeId) (fr : Nat × Nat), w.heap[B]? = some (.cells cs t fr) → t ≠ 5 → w'.heap[B]? = some (.cells cs t fr)
theorem Keep5.refl (w : World) : Keep5 w w := fun _ _ _ _ h _ => h
theorem Keep5.up {w w' : World} (h : Below w.heap.size w w') : Keep5 w w' := fun B cs t fr hb _ => blk_up hb h
theorem Keep5.grown {w w' : World} {base : Nat} {v : Value} {l : List Int} (ho : OwnB w base v l) (hg : w.grownBy w' v.ownBlock) : Keep5 w w' := fun B cs t fr hb ht =>
  blk_grown hb hg (fun e => by
    rcases own_blk_ne ho hb (fun q => ht q.symm) with h | h
    · rw [h] at e; cases e
    · exact h e.symm)
theorem Keep5.trans {a b c : World} (h : Keep5 a b) (k : Keep5 b c) : Keep5 a c := fun B cs t fr hb ht => k B cs t fr (h B cs t fr hb ht) ht

theorem strCells_nums (s : ByteArray) : Lib.strCells s = (nums s).map (Value.int .u8) := by
  unfold Lib.strCells nums
  rw [List.map_map]
  rfl

/-- append of a text's octets. -/
theorem wpList_append_str (w : World) {ops : Array Oper} {rest : List Oper} {o : Oper} {a : Act} {Q : Exit → Act → World → Prop} (hgd : o.guard = none) (s x : Operand)
    (ho : o.op = .call { callee := .builtin .append, args := #[s, x], argTypes := #[25, 9] }) (base : Nat) (v : Value) (l0 : List Int) (hs : a.eval s = v) (hown : OwnB w base v l0)
    (t : ByteArray) (hx : a.eval x = .string t) (hsz : l0.length + t.size ≤ 140737488355328) (hbase : base ≤ w.heap.size)
    (h : ∀ v' w', OwnB w' base v' (l0 ++ nums t) → w.grownBy w' v.ownBlock → wpList Try.prog ops Q rest (a.put o.dst v') w') : wpList Try.prog ops Q (o :: rest) a w := by
  obtain ⟨i0, hi, hz0, hz1, hz2⟩ := info_some Try.info5
  refine Lib.wpList_append_own_string w hgd s x 25 9 ho base 5 i0 Try.underlying25 Try.underlying9 hi hz0 hz1 hz2 v l0.length _ hs hown t hx (by unfold maxLen; omega) hsz hbase ?_
  intro v' w' h1 h2 _
  refine h v' w' ?_ h2
  unfold OwnB
  rw [List.length_append, nums_length, List.map_append, ← strCells_nums]
  exact h1

set_option maxHeartbeats 1000000 in
/-- The length of a text and the text, behind what there is. -/
theorem appText_any (l : List Int) (v : Value) (s : ByteArray) (w : World) (base : Nat) (hv : OwnB w base v l) (hb : base ≤ w.heap.size) (hs : s.size ≤ 65536) (hl : l.length + 70000 ≤ 140737488355328) :
    Calls Try.prog 33 #[v, .string s] w fun e w' => ∃ a n c, e = .returned (.slice a n c) ∧ Hid (OwnB w' base (.slice a n c) (l ++ textOf s)) ∧ Hid (Below base w w') ∧ Hid (Keep5 w w') := by
  obtain ⟨a, n, c, rfl, N0⟩ := own_shape hv
  have HV : Hid (OwnB w base (.slice a n c) l) := hv
  clear hv
  have g3 : IntKind.u64.wrap (s.size : Int) = (s.size : Int) := wrap_u64_id _ (by omega) (by omega)
  have HL : Hid ((octets (s.size : Int)).length ≤ 9) := (octets_len _ (by omega) (by omega)).2
  have HX : Hid (∀ x ∈ octets (s.size : Int), 0 ≤ x ∧ x ≤ 255) := octets_octet _ (by omega) (by omega)
  have HS : Hid (s.size ≤ 65536 ∧ l.length + 70000 ≤ 140737488355328 ∧ base ≤ w.heap.size) := ⟨hs, hl, hb⟩
  have HP : Hid (Calls Try.prog 31 #[.int .u64 (s.size : Int)] w fun e w' => ∃ v, e = .returned v ∧ OwnB w' w.heap.size v (octets (s.size : Int)) ∧ Below w.heap.size w w') := put_any _ w (by omega) (by omega)
  clear hs hl hb
  go_enter Try.func33, Try.ntmps33
  go_wp2_with fail
  refine HP.out.mono ?_
  rintro e w1 ⟨v1, rfl, o1, b1⟩
  obtain ⟨a1, n1, c1, rfl, N1⟩ := own_shape o1
  have O1 : Hid (Octs w1 (.slice a1 n1 c1) (octets (s.size : Int))) := Octs.own o1 HX.out
  have V1 : Hid (OwnB w1 base (.slice a n c) l) := own_up HV.out b1
  have S1 : Hid (w.heap.size ≤ w1.heap.size) := b1.size
  have B1 : Hid (Below w.heap.size w w1) := b1
  clear o1 b1
  go_wp2_with (at_builtin; refine wpList_append_octs _ rfl _ _ rfl base _ l rfl V1.out _ _ rfl O1.out ?c1 ?c2 ?_)
  case c1 => have := HS.out; have := HL.out; omega
  case c2 => have := HS.out; have := S1.out; omega
  intro v2 w2 o2 g2
  obtain ⟨a2, n2, c2, rfl, N2⟩ := own_shape o2
  have O2 : Hid (OwnB w2 base (.slice a2 n2 c2) (l ++ octets (s.size : Int))) := o2
  have B2 : Hid (Below base w w2) := (B1.out.mono HS.out.2.2).grown g2 (by have := HS.out; have := S1.out; omega) (fun j hj => (V1.out.lt j hj).1)
  have K2 : Hid (Keep5 w w2) := (Keep5.up B1.out).trans (Keep5.grown V1.out g2)
  have S2 : Hid (base ≤ w2.heap.size) := Nat.le_trans HS.out.2.2 (Nat.le_trans S1.out g2.size)
  clear o2 g2
  go_wp2_with (at_builtin; refine wpList_append_str _ rfl _ _ rfl base _ _ rfl O2.out s rfl ?d1 S2.out ?_)
  case d1 => have := HS.out; have := HL.out; rw [List.length_append]; omega
  intro v3 w3 o3 g3
  obtain ⟨a3, n3, c3, rfl, N3⟩ := own_shape o3
  have O3 : Hid (OwnB w3 base (.slice a3 n3 c3) (l ++ textOf s)) := by
    unfold Hid textOf
    simpa [List.append_assoc] using o3
  have B3 : Hid (Below base w w3) := B2.out.grown g3 S2.out (fun j hj => (O2.out.lt j hj).1)
  have K3 : Hid (Keep5 w w3) := K2.out.trans (Keep5.grown O2.out g3)
  clear o3 g3
  go_wp2
  go_ret
  exact ⟨_, _, _, rfl, O3, B3, K3⟩

set_option maxHeartbeats 1000000 in
theorem check_any (s : Int) (cs : List Chg) (a : Option Addr) (c : Nat) (w : World) (hv : ChgsR w (.slice a cs.length c) cs) :
    Calls Try.prog 21 #[.agg #[.int .i64 s, .slice a cs.length c]] w fun e w' => e = .returned (.int .i64 (checkOf s cs)) ∧ Below w.heap.size w w' := by
  have HV : Hid (ChgsR w (.slice a cs.length c) cs) := hv
  clear hv
  unfold checkOf
  by_cases h1 : s < 1
  · rw [if_pos (.inl h1)]
    go_enter Try.func21, Try.ntmps21
    go_wp2
    go_ret
    exact ⟨rfl, up_alloc _ _⟩
  by_cases h2 : 1099511627712 < s
  · rw [if_pos (.inr h2)]
    go_enter Try.func21, Try.ntmps21
    go_wp2
    go_ret
    exact ⟨rfl, up_alloc _ _⟩
  rw [if_neg (by omega)]
  by_cases h3 : cs.length < 1
  · have a3 : (cs.length : Int) < 1 := by omega
    rw [if_pos (.inl h3)]
    go_enter Try.func21, Try.ntmps21
    go_wp2
    go_ret
    exact ⟨rfl, up_alloc _ _⟩
  have a3 : ¬ (cs.length : Int) < 1 := by omega
  by_cases h4 : 64 < cs.length
  · have a4 : (64 : Int) < (cs.length : Int) := by omega
    rw [if_pos (.inr h4)]
    go_enter Try.func21, Try.ntmps21
    go_wp2
    go_ret
    exact ⟨rfl, up_alloc _ _⟩
  have a4 : ¬ (64 : Int) < (cs.length : Int) := by omega
  rw [if_neg (by omega)]
  clear h3
  go_enter Try.func21, Try.ntmps21
  go_wp2
  go_loopw [27] (fun i wr => ∃ k : Nat, k ≤ cs.length ∧ i = .int .i64 k ∧ Hid (chgsErr cs = chgsErr (cs.drop k)) ∧ Hid (Below w.heap.size w wr)) (fun i _ => cs.length - (intOf i).toNat)
  case atStart => exact ⟨0, Nat.zero_le _, rfl, rfl, up_alloc _ _⟩
  case round =>
    obtain ⟨k, hk, rfl, HE, HB⟩ := hrel
    by_cases hlt : k < cs.length
    · have hlt' : (k : Int) < (cs.length : Int) := by omega
      obtain ⟨b, off, cap, ch, e, q1, q2, hcs, c0, c1, c2⟩ := (HV.out.up HB.out).at k hlt
      simp at e
      obtain ⟨rfl, rfl⟩ := e
      have HD : Hid (chgsErr (cs.drop k) = if chgErr ch = 0 then chgsErr (cs.drop (k + 1)) else chgErr ch) := by
        have : cs.drop k = ch :: cs.drop (k + 1) := by
          rw [List.drop_eq_getElem_cons hlt]
          congr 1
          rw [List.getElem?_eq_getElem hlt] at hcs
          exact Option.some.inj hcs
        unfold Hid
        rw [this]
        rfl
      clear hcs
      go_wp2_with fail
      refine (chkChange_any ch _).mono ?_
      rintro e w1 ⟨rfl, b1⟩
      have HB1 : Hid (Below w.heap.size w w1) := up_trans (up_al HB.out _) b1
      clear b1
      by_cases hz : chgErr ch = 0
      · have HD2 : Hid (chgsErr cs = chgsErr (cs.drop (k + 1))) := by
          have := HD.out
          rw [if_pos hz] at this
          exact HE.out.trans this
        rw [hz]
        clear HD hz
        go_wp2
        exact ⟨⟨k + 1, hlt, by go_num, HD2, HB1⟩, by simp [intOf]; omega⟩
      · have HD2 : Hid (chgsErr cs = chgErr ch) := by
          have := HD.out
          rw [if_neg hz] at this
          exact HE.out.trans this
        have hz' : (chgErr ch == 0) = false := by simp [hz]
        clear HD
        go_wp2
        go_ret
        exact ⟨ret_int HD2.out.symm, HB1.out⟩
    · have hlt' : ¬ (k : Int) < (cs.length : Int) := by omega
      have HD2 : Hid (chgsErr cs = 0) := by
        have e := HE.out
        rw [List.drop_eq_nil_iff.2 (by omega)] at e
        exact e
      go_wp2
      go_ret
      exact ⟨ret_int HD2.out.symm, HB.out⟩
end Go.Proofs.Ytgphkddcfcmaiaa
