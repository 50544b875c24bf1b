/- A job that fails again and again; one with a rule. -/
import Derived.Test.YtpjmieiajhhbaaaDoorJKeep
namespace Go.Proofs.YtpjmieiajhhbaaaDoor
open Go.RowKit
set_option linter.unusedVariables false
set_option linter.unusedSimpArgs false

/-! ### no rule -/
def dyJ (p : List Int) (s d t : Int) : Jb := ⟨7, [], [], p, s, d, t, 0, 0, 0⟩
theorem dy_in {p : List Int} {d t : Int} (hp : p.length ≤ 200) (hd : 0 ≤ d ∧ d ≤ 32503680000) (ht : 0 ≤ t ∧ t ≤ 16) : JbIn (dyJ p 1 d t) :=
  ⟨⟨by show (1 : Int) ≤ 7; decide, by show (7 : Int) ≤ 1099511627776; decide⟩, Nat.zero_le _, hp, ⟨i11, i13⟩, hd, ht, .inl rfl, fun q => absurd (show (1 : Int) = 2 from q) (by decide), fun _ => ⟨rfl, rfl, rfl⟩⟩
def heldJ (p : List Int) (t now : Int) : Jb := ⟨7, [], [], p, 2, 0, t, 1, t + 1, now + 1⟩
theorem dy_lease {p : List Int} {d t now : Int} (hp : p.length ≤ 200) (hd : 0 ≤ d ∧ d ≤ 32503680000) (ht : 0 ≤ t ∧ t ≤ 15) (hn : 0 ≤ now ∧ now ≤ 999999) : leaseP (dyJ p 1 d t) 1 (t + 1) (now + 1) = (heldJ p t now, 0) := by
  have h := jb_out (dy_in hp hd ⟨ht.1, by omega⟩)
  unfold leaseP
  rw [if_neg (by rw [h]; decide), if_neg (by show ¬ ((1 : Int) ≠ 1); decide), if_pos]
  · rfl
  · simp only [Bool.and_eq_true]
    exact ⟨inB_iff.2 ⟨by decide, by decide⟩, inB_iff.2 ⟨by omega, by omega⟩, inB_iff.2 ⟨by omega, by omega⟩⟩
theorem held_in {p : List Int} {t now : Int} (hp : p.length ≤ 200) (ht : 0 ≤ t ∧ t ≤ 15) (hn : 0 ≤ now ∧ now ≤ 999999) : JbIn (heldJ p t now) :=
  ⟨⟨by show (1 : Int) ≤ 7; decide, by show (7 : Int) ≤ 1099511627776; decide⟩, Nat.zero_le _, hp, ⟨i12, i23⟩, ⟨i00, i0m⟩, ⟨ht.1, by show t ≤ 16; omega⟩, .inl rfl, fun _ => ⟨⟨i11, by show (1 : Int) ≤ 2147483648; decide⟩, ⟨by show 1 ≤ t + 1; omega, by show t + 1 ≤ 1099511627776; omega⟩, ⟨by show 0 ≤ now + 1; omega, by show now + 1 ≤ 32503680000; omega⟩, rfl⟩, fun q => absurd rfl q⟩
theorem dueP_small {b c n now k : Int} (hl : LimOk b c n) (hk : 0 ≤ k) (hn : 0 ≤ now ∧ now ≤ 999999999) : dueP b c n now k = (now + delN b c k.toNat, 0) := by
  unfold dueP
  rw [if_pos]
  have := (delN_le hl k.toNat).2
  have := hl.2.2.2.1
  exact ⟨⟨hl, hk⟩, hn.1, by omega⟩
theorem dy_fail {p : List Int} {t now b c n : Int} (hl : LimOk b c n) (hp : p.length ≤ 200) (ht : 0 ≤ t ∧ t < n) (hn : 0 ≤ now ∧ now ≤ 999999) :
    failP (heldJ p t now) b c n now = if t + 1 < n then (dyJ p 1 (now + delN b c t.toNat) (t + 1), 0) else (dyJ p 3 now (t + 1), 0) := by
  have n16 := hl.2.2.2.2.2
  have h := jb_out (held_in (p := p) (t := t) (now := now) hp ⟨ht.1, by omega⟩ hn)
  have hu : upTr (heldJ p t now).tr = t + 1 := by
    show upTr t = t + 1
    unfold upTr
    rw [if_pos (by omega)]
  unfold failP
  rw [if_neg (by rw [h]; decide), if_neg (by unfold chkP; rw [if_pos hl]; decide), if_neg (by show ¬ ((2 : Int) ≠ 2); decide), if_pos (inB_iff.2 ⟨hn.1, by omega⟩), hu]
  have hd := dueP_small hl ht.1 (now := now) ⟨hn.1, by omega⟩
  have e : (({ heldJ p t now with tr := t + 1 } : Jb).tr - 1) = t := by show t + 1 - 1 = t; omega
  have z : (againP ({ heldJ p t now with tr := t + 1 } : Jb) now).2 = false := by
    unfold againP
    rw [if_pos (show ({ heldJ p t now with tr := t + 1 } : Jb).ru = [] from rfl)]
  unfold failB
  rw [e, hd, z]
  by_cases q : t + 1 < n
  · rw [if_pos ⟨q, rfl⟩, if_pos q]
    rfl
  · rw [if_neg (fun r => q r.1), if_neg q, if_neg (by decide)]
    rfl
theorem dy_due {b c n now t : Int} (hl : LimOk b c n) (hn : 0 ≤ now ∧ now ≤ 999999) : 0 ≤ now + delN b c t.toNat ∧ now + delN b c t.toNat ≤ 32503680000 := by
  have := delN_le hl t.toNat
  have := hl.2.2.2.1
  have := hl.1
  omega

/-! ### with a rule -/
def rcJ (l : List Int) (n now : Int) : Jb := ⟨1, [], l, [], 2, 0, n - 1, 1, 1, now⟩
theorem parse_none : (parseR []).2 ≠ 0 := by decide +kernel
theorem rc_in {l : List Int} {n now : Int} (hr : (parseR l).2 = 0) (hl : l.length ≤ 200) (hn : 1 ≤ n ∧ n ≤ 16) (hw : 0 ≤ now ∧ now ≤ 999999999) : JbIn (rcJ l n now) :=
  ⟨⟨i11, by show (1 : Int) ≤ 1099511627776; decide⟩, Nat.zero_le _, Nat.zero_le _, ⟨i12, i23⟩, ⟨i00, i0m⟩, ⟨by show 0 ≤ n - 1; omega, by show n - 1 ≤ 16; omega⟩, .inr ⟨hr, by show (2 : Int) ≠ 3; decide, hl⟩, fun _ => ⟨⟨i11, by show (1 : Int) ≤ 2147483648; decide⟩, ⟨i11, by show (1 : Int) ≤ 1099511627776; decide⟩, ⟨hw.1, by show now ≤ 32503680000; omega⟩, rfl⟩, fun q => absurd rfl q⟩
def rcW (l : List Int) (d : Int) : Jb := ⟨1, [], l, [], 1, d, 0, 0, 0, 0⟩
theorem rc_finish {l : List Int} {n now : Int} (hr : (parseR l).2 = 0) (hl : l.length ≤ 200) (hn : 1 ≤ n ∧ n ≤ 16) (hw : 0 ≤ now ∧ now ≤ 999999999) :
    finishP (rcJ l n now) now = if (nextP (parseR l).1 now).2.1 = true then (rcW l (nextP (parseR l).1 now).1, true, 0) else (jb0, false, 0) := by
  have h := jb_out (rc_in hr hl hn hw)
  have ne : l ≠ [] := fun e => parse_none (by rw [← e]; exact hr)
  unfold finishP
  rw [if_neg (by rw [h]; decide), if_neg (by show ¬ ((2 : Int) ≠ 2); decide), if_pos (inB_iff.2 ⟨hw.1, by omega⟩)]
  have e : againP (rcJ l n now) now = if (nextP (parseR l).1 now).2.1 = true then (rcW l (nextP (parseR l).1 now).1, true) else (rcJ l n now, false) := by
    unfold againP
    rw [if_neg (show ¬ (rcJ l n now).ru = [] from ne)]
    rfl
  rw [e]
  by_cases q : (nextP (parseR l).1 now).2.1 = true
  · rw [if_pos q, if_pos q]; rfl
  · rw [if_neg q, if_neg q]; rfl
theorem rc_fail {l : List Int} {b c n now : Int} (hl0 : LimOk b c n) (hr : (parseR l).2 = 0) (hl : l.length ≤ 200) (hw : 0 ≤ now ∧ now ≤ 999999999) :
    failP (rcJ l n now) b c n now = if (nextP (parseR l).1 now).2.1 = true then (rcW l (nextP (parseR l).1 now).1, 0) else (⟨1, [], [], [], 3, now, n, 0, 0, 0⟩, 0) := by
  have n1 := hl0.2.2.2.2
  have h := jb_out (rc_in hr hl n1 hw)
  have ne : l ≠ [] := fun e => parse_none (by rw [← e]; exact hr)
  have hu : upTr (rcJ l n now).tr = n := by
    show upTr (n - 1) = n
    unfold upTr
    rw [if_pos (by omega)]
    omega
  unfold failP
  rw [if_neg (by rw [h]; decide), if_neg (by unfold chkP; rw [if_pos hl0]; decide), if_neg (by show ¬ ((2 : Int) ≠ 2); decide), if_pos (inB_iff.2 ⟨hw.1, by omega⟩), hu]
  have e : againP ({ rcJ l n now with tr := n } : Jb) now = if (nextP (parseR l).1 now).2.1 = true then (rcW l (nextP (parseR l).1 now).1, true) else ({ rcJ l n now with tr := n }, false) := by
    unfold againP
    rw [if_neg (show ¬ ({ rcJ l n now with tr := n } : Jb).ru = [] from ne)]
    rfl
  unfold failB
  rw [if_neg (fun r => by have : n < n := r.1; omega), e]
  by_cases q : (nextP (parseR l).1 now).2.1 = true
  · rw [if_pos q, if_pos q]; rfl
  · rw [if_neg q, if_neg q]; rfl
/-- Of a rule that is none, or too long. -/
theorem rc_not {l : List Int} (hne : l ≠ []) (h : (parseR l).2 ≠ 0 ∨ 200 < l.length) : chkJ ⟨1, [], l, [], 1, 0, 0, 0, 0, 0⟩ = 9 := by
  rcases chkJ_two ⟨1, [], l, [], 1, 0, 0, 0, 0, 0⟩ with c | c
  · exfalso
    rcases (jb_in c).ru with e | ⟨r1, -, r3⟩
    · exact hne e
    · rcases h with h | h
      · exact h r1
      · have r3 : l.length ≤ 200 := r3
        omega
  · exact c
end Go.Proofs.YtpjmieiajhhbaaaDoor
