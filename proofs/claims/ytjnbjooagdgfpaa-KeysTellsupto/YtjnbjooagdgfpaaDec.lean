/- keys.Decode returns, for any text of at most 2^40 octets, the parts (in memory of their own) and the error that the plain function 'decodeOf' says. -/
import Derived.Test.YtjnbjooagdgfpaaDecMath
namespace Go.Proofs.Ytjnbjooagdgfpaa
open Go.RowKit
set_option linter.unusedVariables false

def strLen : Value → Nat
  | .string s => s.size
  | _ => 0

theorem OwnP.slice {w : World} {base : Nat} {e : TypeId} {v : Value} {l : List (Bool × Int × List Int)} (h : OwnP w base e v l) : ∃ a cap, v = .slice a l.length cap ∧ l.length ≤ cap ∧ cap ≤ maxLen := by
  obtain ⟨_, h2⟩ := h
  rcases h2 with ⟨rfl, h0⟩ | ⟨g, cap, cur, rfl, hg, hh, hn, hm, hs, ht⟩
  · exact ⟨none, 0, by rw [h0], by omega, by simp⟩
  · exact ⟨_, cap, rfl, hn, hm⟩

theorem decode_of_all {s : List Int} {a : List (Bool × Int × List Int)} (h : decAll s = (a, 0)) : decodeOf s = if 8 < a.length then ([], 3) else (a, 0) := by
  unfold decodeOf
  rw [h]
  simp
theorem decode_of_bad {s : List Int} {e : Int} (h : decAll s = ([], e)) (he : ¬ e = 0) : decodeOf s = ([], e) := by
  unfold decodeOf
  rw [h]
  simp [he]

theorem wpList_append_partN (w0 : World) {ops : Array Oper} {rest : List Oper} {o : Oper} {a : Act} {Q : Exit → Act → World → Prop} (hgd : o.guard = none) (s x : Operand) (t e : TypeId)
    (ho : o.op = .call { callee := .builtin .append, args := #[s, x], argTypes := #[t, t] }) (ht : Try.prog.underlying t = some (.slice e))
    (hinf : (Try.prog.info? e).map (fun i => (i.zero, i.size, i.bytes)) = some (some (.agg #[.bool false, .int .i64 0, .string ⟨#[]⟩]), 3, 32))
    (base : Nat) (v : Value) (l0 : List (Bool × Int × List Int)) (hs : a.eval s = v) (hown : OwnP w0 base e v l0)
    (p : Bool × Int × List Int) (N : Nat) (hN : w0.heap.size = N) (hx : a.eval x = .slice (some ⟨N, 0, none⟩) 1 1) (hsz : l0.length + 1 ≤ 4398046511104) (hbase : base ≤ w0.heap.size)
    (h : ∀ v' w', OwnP w' base e v' (l0 ++ [p]) → Below base w0 w' → wpList Try.prog ops Q rest (a.put o.dst v') w') :
    wpList Try.prog ops Q (o :: rest) a (w0.alloc (.cells (pcells p).toArray e)) := by
  subst hN
  exact wpList_append_part w0 hgd s x t e ho ht hinf base v l0 hs hown p hx hsz hbase h

set_option maxHeartbeats 2000000 in
theorem decode_any (s : List Int) (hs : ∀ x ∈ s, 0 ≤ x ∧ x ≤ 255) (hm : s.length ≤ 1099511627776) (w : World) :
    Calls Try.prog 12 #[.string (strOfNums s)] w fun e w' => ∃ v', e = .returned (.tuple #[v', .int .i64 (decodeOf s).2]) ∧ OwnP w' w.heap.size 49 v' (decodeOf s).1 ∧ Below w.heap.size w w' := by
  go_enter Try.func12, Try.ntmps12
  go_wp2
  go_loopw [0, 4] (fun vs vl wr => ∃ (rest : List Int) (a : List (Bool × Int × List Int)), vs = .string (strOfNums rest) ∧ Hid (∀ x ∈ rest, 0 ≤ x ∧ x ≤ 255) ∧ rest.length ≤ s.length ∧ Hid (OwnP wr w.heap.size 49 vl (a.take 9)) ∧ Hid (decAux rest.length rest a = decAll s) ∧ Hid (Below w.heap.size w wr)) (fun vs _ _ => strLen vs)
  case atStart => exact ⟨s, [], rfl, hs, Nat.le_refl _, OwnP.nil _ _ _, rfl, Below.refl _ _⟩
  case round =>
    obtain ⟨rest, a, rfl, HO, hlen, HW, HA, HB⟩ := hrel
    obtain ⟨ad, cap, rfl, hcap, hcm⟩ := HW.out.slice
    unfold maxLen at hcm
    have hsz := str_size rest
    cases rest with
    | nil =>
      have hE : decAll s = (a, 0) := HA.out.symm.trans (dec_nil a)
      have hD := decode_of_all hE
      by_cases c : 8 < a.length
      · rw [if_pos c] at hD
        have HD : Hid (decodeOf s = ([], 3)) := hD
        have h9 : (a.take 9).length = 9 := by rw [List.length_take]; omega
        rw [h9]
        clear hE hD HA
        go_wp2
        go_ret2
        rw [HD.out]
        exact ⟨_, rfl, OwnP.nil _ _ _, HB.out⟩
      · rw [if_neg c] at hD
        have HD : Hid (decodeOf s = (a, 0)) := hD
        have h9 : a.take 9 = a := List.take_of_length_le (by omega)
        rw [h9] at HW hcap ⊢
        have c' : ¬ (8 : Int) < (a.length : Int) := by omega
        clear hE hD HA
        go_wp2
        go_ret2
        rw [HD.out]
        exact ⟨_, rfl, HW.out, HB.out⟩
    | cons y r =>
      rw [List.length_cons] at hsz hlen
      rcases first_says y r HO.out with ⟨e, h1, h2⟩ | ⟨p, k, h1, h2, h3, h4, h5, h6⟩
      · have he : ¬ e = 0 := by omega
        have heb : (e == 0) = false := by simp [he]
        have HD : Hid (decodeOf s = ([], e)) := decode_of_bad (HA.out.symm.trans (dec_bad h1 he)) he
        have HR : Hid (firstRet (y :: r) = .tuple #[.agg #[.bool false, .int .i64 0, .string ⟨#[]⟩], .int .i64 0, .int .i64 e]) := by
          unfold Hid firstRet
          rw [h1]
          rfl
        clear h1 HA
        go_wp2_with fail
        refine (first_any y r HO.out (by omega) _).mono ?_
        rintro e' w1 ⟨rfl, hb1⟩
        rw [HR.out]
        have HB1 : Hid (Below w.heap.size w (w1.alloc (.cells #[.bool false, .int .i64 0, .string ⟨#[]⟩] 49))) := up_al (up_trans HB.out hb1) _
        clear hb1
        go_wp2
        go_ret2
        rw [HD.out]
        exact ⟨_, rfl, OwnP.nil _ _ _, HB1.out⟩
      · have HR : Hid (firstRet (y :: r) = .tuple #[.agg #[.bool p.1, .int .i64 p.2.1, .string (strOfNums p.2.2)], .int .i64 k, .int .i64 0]) := by
          unfold Hid firstRet
          rw [h1]
          rfl
        have HA2 : Hid (decAux ((y :: r).drop k).length ((y :: r).drop k) (a ++ [p]) = decAll s) := (dec_good HO.out h1 h2).trans HA.out
        have HO2 : Hid (∀ x ∈ (y :: r).drop k, 0 ≤ x ∧ x ≤ 255) := fun x hx => HO.out x (List.mem_of_mem_drop hx)
        have ec : (strOfNums (y :: r)).extract k (r.length + 1) = strOfNums ((y :: r).drop k) := by
          rw [str_cut, List.take_of_length_le (by rw [List.length_drop, List.length_cons]; omega)]
        have hk' : (k : Int) ≤ (r.length : Int) + 1 := by omega
        have hl2 : ((y :: r).drop k).length ≤ s.length := by rw [List.length_drop, List.length_cons]; omega
        have hl3 : (strOfNums ((y :: r).drop k)).size < (strOfNums (y :: r)).size := by rw [str_size, str_size, List.length_drop, List.length_cons]; omega
        clear h1 h4 h5 h6 HA
        go_wp2_with fail
        refine (first_any y r HO.out (by omega) _).mono ?_
        rintro e' w1 ⟨rfl, hb1⟩
        rw [HR.out]
        have HB1 : Hid (Below w.heap.size w (w1.alloc (.cells #[.bool p.1, .int .i64 p.2.1, .string (strOfNums p.2.2)] 49))) := up_al (up_trans HB.out hb1) _
        have HW1 : Hid (OwnP (w1.alloc (.cells #[.bool p.1, .int .i64 p.2.1, .string (strOfNums p.2.2)] 49)) w.heap.size 49 (.slice ad (a.take 9).length cap) (a.take 9)) := (HW.out.up hb1).up (up_al (Below.refl _ _) _)
        clear hb1 HW HB HO
        by_cases c : a.length ≤ 8
        · have h9 : a.take 9 = a := List.take_of_length_le (by omega)
          rw [h9] at HW1 hcap ⊢
          have c' : (a.length : Int) ≤ 8 := by omega
          have h10 : (a ++ [p]).take 9 = a ++ [p] := List.take_of_length_le (by simp; omega)
          have hz1 := HB1.out.size
          go_wp2_with (at_builtin; refine wpList_append_partN _ rfl _ _ 23 49 rfl Try.underlying23 Try.info49 w.heap.size _ a rfl HW1.out p (w1.heap.size + 1) (by simp) rfl ?c1 ?c2 ?_)
          try case c1 => omega
          try case c2 => first | exact hz1 | omega
          intro v3 w3 ho3 hb3
          have HW3 : Hid (OwnP w3 w.heap.size 49 v3 ((a ++ [p]).take 9)) := by unfold Hid; rw [h10]; exact ho3
          have HB3 : Hid (Below w.heap.size w w3) := HB1.out.trans hb3
          clear ho3 hb3 HW1 HB1 h10
          go_wp2
          exact ⟨⟨_, a ++ [p], rfl, HO2, hl2, HW3, HA2, HB3⟩, hl3⟩
        · have c' : ¬ (a.length : Int) ≤ 8 := by omega
          have h9 : (a.take 9).length = 9 := by rw [List.length_take]; omega
          have h10 : (a ++ [p]).take 9 = a.take 9 := by rw [List.take_append_of_le_length (by omega)]
          rw [h9] at HW1 hcap ⊢
          have HW3 : Hid (OwnP (w1.alloc (.cells #[.bool p.1, .int .i64 p.2.1, .string (strOfNums p.2.2)] 49)) w.heap.size 49 (.slice ad 9 cap) ((a ++ [p]).take 9)) := by unfold Hid; rw [h10]; exact HW1.out
          clear HW1 h10 h9
          go_wp2
          exact ⟨⟨_, a ++ [p], rfl, HO2, hl2, HW3, HA2, HB1⟩, hl3⟩
end Go.Proofs.Ytjnbjooagdgfpaa
