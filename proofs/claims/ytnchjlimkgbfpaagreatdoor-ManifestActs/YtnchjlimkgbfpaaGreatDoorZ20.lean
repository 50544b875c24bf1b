/- The texts FGet, FMath, FScanM, FCut, LBase, EMath, EQ, EOct, ELeaf, EChk, ALeaf, in this order. -/
import Derived.Test.YtnchjlimkgbfpaaGreatDoorZ18
import Derived.Test.YtnchjlimkgbfpaaGreatDoorVAgain
import Derived.Test.YtnchjlimkgbfpaaGreatDoorZ02
import Derived.Test.YtnchjlimkgbfpaaGreatDoorZ06

namespace Go.Proofs.YtnchjlimkgbfpaaGreatDoor
open Go.RowKit SumPlain
set_option linter.unusedVariables false
set_option maxRecDepth 20000
def fget (b : List Int) : Int × List Int × Int × Int :=
  if (getOf b).2.2 ≠ 0 then (0, [], 0, (getOf b).2.2) else
  if 65536 < (getOf b).1 then (0, [], 0, 5) else
  if (b.length : Int) < (getOf b).2.1 + 1 + (getOf b).1 + 4 then (0, [], 0, 8) else
  if (bareOf (b.take ((getOf b).2.1 + 1 + (getOf b).1 + 4).toNat)).2 ≠ 0 then (0, [], 0, (bareOf (b.take ((getOf b).2.1 + 1 + (getOf b).1 + 4).toNat)).2) else
  ((bareOf (b.take ((getOf b).2.1 + 1 + (getOf b).1 + 4).toNat)).1.getD (getOf b).2.1.toNat 0, (bareOf (b.take ((getOf b).2.1 + 1 + (getOf b).1 + 4).toNat)).1.drop ((getOf b).2.1.toNat + 1), (getOf b).2.1 + 1 + (getOf b).1 + 4, 0)
end Go.Proofs.YtnchjlimkgbfpaaGreatDoor

namespace Go.Proofs.YtnchjlimkgbfpaaGreatDoor
open Go.RowKit SumPlain
set_option linter.unusedVariables false
set_option maxRecDepth 20000
theorem frame_octet (k : Int) (l : List Int) (hk : 0 ≤ k ∧ k ≤ 255) (hl : l.length ≤ 65536) (hx : ∀ x ∈ l, 0 ≤ x ∧ x ≤ 255) : ∀ x ∈ frameOf k l, 0 ≤ x ∧ x ≤ 255 := by
  refine guard_octet _ ?_
  intro x hx'
  rcases List.mem_append.1 hx' with h | h
  · exact (octets_form _ (by omega) (by omega)).octet x h
  · rcases List.mem_cons.1 h with h | h
    · omega
    · exact hx x h
end Go.Proofs.YtnchjlimkgbfpaaGreatDoor

namespace Go.Proofs.YtnchjlimkgbfpaaGreatDoor
open Go.RowKit SumPlain
set_option linter.unusedVariables false
set_option maxRecDepth 20000
def scanF : Nat → List Int → List (Int × List Int × Nat)
  | 0, _ => []
  | f + 1, b => if (fget b).2.2.2 = 0 then ((fget b).1, (fget b).2.1, (fget b).2.2.1.toNat) :: scanF f (b.drop (fget b).2.2.1.toNat) else []
def scanOf (b : List Int) : List (Int × List Int × Nat) := scanF (b.length + 1) b
def lenOf : List (Int × List Int × Nat) → Nat
  | [] => 0
  | x :: r => x.2.2 + lenOf r
def ScanAt (b : List Int) (pre : List (Int × List Int × Nat)) (off f : Nat) : Prop :=
  scanOf b = pre ++ scanF f (b.drop off) ∧ lenOf pre = off ∧ off ≤ b.length ∧ b.length - off < f
theorem ScanAt.start (b : List Int) : ScanAt b [] 0 (b.length + 1) := ⟨by simp [scanOf], rfl, Nat.zero_le _, by omega⟩
end Go.Proofs.YtnchjlimkgbfpaaGreatDoor

namespace Go.Proofs.YtnchjlimkgbfpaaGreatDoor
open Go.RowKit SumPlain
set_option linter.unusedVariables false
set_option maxRecDepth 20000
end Go.Proofs.YtnchjlimkgbfpaaGreatDoor

namespace Go.Proofs.YtnchjlimkgbfpaaGreatDoor
open Go.RowKit
set_option linter.unusedVariables false
set_option maxRecDepth 20000
end Go.Proofs.YtnchjlimkgbfpaaGreatDoor

namespace Go.Proofs.YtnchjlimkgbfpaaGreatDoor
open Go.RowKit
set_option linter.unusedVariables false
set_option maxRecDepth 20000
set_option linter.unusedSimpArgs false
theorem bl_selfM : ∀ l : List UInt8, Op.bytesLess l l = false
  | [] => rfl
  | x :: l => by simp [Op.bytesLess, bl_selfM l]
theorem bl_transM : ∀ a b c : List UInt8, Op.bytesLess a b = true → Op.bytesLess b c = true → Op.bytesLess a c = true
  | _, [], _, h, _ => by simp [Op.bytesLess] at h
  | _, _ :: _, [], _, h => by simp [Op.bytesLess] at h
  | [], _ :: _, _ :: _, _, _ => by simp [Op.bytesLess]
  | x :: a, y :: b, z :: c, h, k => by
    simp only [Op.bytesLess, Bool.or_eq_true, decide_eq_true_eq, Bool.and_eq_true, beq_iff_eq] at h k ⊢
    rcases h with h | ⟨rfl, h⟩
    · rcases k with k | ⟨rfl, k⟩
      · exact .inl (UInt8.lt_trans h k)
      · exact .inl h
    · rcases k with k | ⟨rfl, k⟩
      · exact .inl k
      · exact .inr ⟨rfl, bl_transM a b c h k⟩
theorem bl_totalM : ∀ a b : List UInt8, Op.bytesLess a b = false → Op.bytesLess b a = false → a = b
  | [], [], _, _ => rfl
  | [], _ :: _, h, _ => by simp [Op.bytesLess] at h
  | _ :: _, [], _, h => by simp [Op.bytesLess] at h
  | x :: a, y :: b, h, k => by
    simp only [Op.bytesLess, Bool.or_eq_false_iff, decide_eq_false_iff_not, Bool.and_eq_false_iff, beq_eq_false_iff_ne] at h k
    have e : x = y := UInt8.le_antisymm (UInt8.not_lt.1 k.1) (UInt8.not_lt.1 h.1)
    subst e
    have h2 : Op.bytesLess a b = false := by rcases h.2 with q | q; exact absurd rfl q; exact q
    have k2 : Op.bytesLess b a = false := by rcases k.2 with q | q; exact absurd rfl q; exact q
    rw [bl_totalM a b h2 k2]
structure Me where
  id : Int
  lvl : Int
  cnt : Int
  low : ByteArray
  high : ByteArray
instance : Inhabited Me := ⟨⟨0, 0, 0, ⟨#[]⟩, ⟨#[]⟩⟩⟩
def meV (m : Me) : Value := .agg #[.int .i64 m.id, .int .i64 m.lvl, .int .i64 m.cnt, .string m.low, .string m.high]
def meRow (m : Me) : List Value := [.int .i64 m.id, .int .i64 m.lvl, .int .i64 m.cnt, .string m.low, .string m.high]
def keyM (s : ByteArray) : Bool := decide (1 ≤ (s.size : Int) ∧ (s.size : Int) ≤ 96)
def leM (s t : ByteArray) : Bool := Op.bytesLess s.toList t.toList || (s.toList == t.toList)
def mayM (m : Me) : Bool := decide (1 ≤ m.id ∧ m.id ≤ 2147483647 ∧ 0 ≤ m.lvl ∧ m.lvl ≤ 3 ∧ 1 ≤ m.cnt ∧ m.cnt ≤ 4096) && (keyM m.low && (keyM m.high && leM m.low m.high))
def befM (a b : Me) : Bool := if a.lvl = b.lvl then (if a.lvl = 0 then decide (b.id < a.id) else Op.bytesLess a.low.toList b.low.toList) else decide (a.lvl < b.lvl)
def okM (next : Int) (ahead : List Me) (m : Me) : Bool :=
  mayM m && (decide (m.id < next) && ((match ahead.getLast? with | none => true | some p => befM p m && !(decide (0 < m.lvl) && (decide (p.lvl = m.lvl) && leM m.low p.high))) && ahead.all (fun p => decide (p.id ≠ m.id))))
def allM (next : Int) : List Me → List Me → Bool
  | _, [] => true
  | ahead, m :: r => okM next ahead m && allM next (ahead ++ [m]) r
def chkV (ts : List Me) (seq next : Int) : Bool := decide (ts.length ≤ 256 ∧ 1 ≤ next ∧ next ≤ 2147483647 ∧ 0 ≤ seq ∧ seq ≤ 1099511627776) && allM next [] ts
def errV (ts : List Me) (seq next : Int) : Int := if chkV ts seq next = true then 0 else 9
def dropM (id : Int) (ts : List Me) : List Me := ts.filter (fun m => decide (m.id ≠ id))
def dropsM : List Int → List Me → Option (List Me)
  | [], ts => some ts
  | i :: r, ts => if (dropM i ts).length = ts.length then none else dropsM r (dropM i ts)
def putM (m : Me) : List Me → List Me
  | [] => [m]
  | x :: r => if befM x m = true then x :: putM m r else m :: x :: r
def putsM : List Me → List Me → List Me
  | [], ts => ts
  | m :: r, ts => putsM r (putM m ts)
def appM (ts : List Me) (seq next : Int) (drop : List Int) (add : List Me) (seq' next' : Int) : List Me × Int :=
  if chkV ts seq next = true then
    (match dropsM drop ts with
     | none => ([], 71)
     | some l => if seq' < seq ∨ next' < next then ([], 4) else if 256 < add.length then ([], 9) else if chkV (putsM add l) seq' next' = true then (putsM add l, 0) else ([], 9))
  else ([], 9)
theorem allM_at (next : Int) : ∀ (r ahead : List Me), allM next ahead r = true → ∀ k m, r[k]? = some m → okM next (ahead ++ r.take k) m = true
  | [], ahead, h, k, m, hk => by simp at hk
  | x :: r, ahead, h, 0, m, hk => by
    simp at hk
    subst hk
    simp only [allM, Bool.and_eq_true] at h
    simpa using h.1
  | x :: r, ahead, h, k + 1, m, hk => by
    simp only [allM, Bool.and_eq_true] at h
    have := allM_at next r (ahead ++ [x]) h.2 k m (by simpa using hk)
    simpa using this
theorem allM_of (next : Int) : ∀ (r ahead : List Me), (∀ k m, r[k]? = some m → okM next (ahead ++ r.take k) m = true) → allM next ahead r = true
  | [], ahead, h => rfl
  | x :: r, ahead, h => by
    simp only [allM, Bool.and_eq_true]
    refine ⟨by simpa using h 0 x rfl, allM_of next r _ (fun k m hk => ?_)⟩
    have := h (k + 1) m (by simpa using hk)
    simpa using this
theorem putM_last (m : Me) : ∀ ts, (∀ x ∈ ts, befM x m = true) → putM m ts = ts ++ [m]
  | [], _ => rfl
  | x :: r, h => by
    rw [putM, if_pos (h x (by simp)), putM_last m r (fun y hy => h y (by simp [hy]))]
    rfl
theorem befM_trans {a b c : Me} (h1 : befM a b = true) (h2 : befM b c = true) : befM a c = true := by
  unfold befM at *
  by_cases e1 : a.lvl = b.lvl
  · rw [if_pos e1] at h1
    by_cases e2 : b.lvl = c.lvl
    · rw [if_pos e2] at h2
      rw [if_pos (e1.trans e2)]
      by_cases z : a.lvl = 0
      · rw [if_pos z] at h1 ⊢
        rw [if_pos (e1 ▸ z)] at h2
        simp only [decide_eq_true_eq] at *
        omega
      · rw [if_neg z] at h1 ⊢
        rw [if_neg (e1 ▸ z)] at h2
        exact bl_transM _ _ _ h1 h2
    · rw [if_neg e2] at h2
      rw [if_neg (by rw [e1]; exact e2)]
      rw [e1]; exact h2
  · rw [if_neg e1] at h1
    simp only [decide_eq_true_eq] at h1
    by_cases e2 : b.lvl = c.lvl
    · rw [if_neg (by omega)]
      simp only [decide_eq_true_eq]
      omega
    · rw [if_neg e2] at h2
      simp only [decide_eq_true_eq] at h2
      rw [if_neg (by omega)]
      simp only [decide_eq_true_eq]
      omega
theorem chk_asc {next : Int} {ts : List Me} (h : allM next [] ts = true) : ∀ (k : Nat) (m : Me), ts[k]? = some m → ∀ x ∈ ts.take k, befM x m = true := by
  intro k
  induction k with
  | zero => intro m _ x hx; simp at hx
  | succ k ih =>
    intro m hm x hx
    have hk : k < ts.length := by have := (List.getElem?_eq_some_iff.1 hm).1; omega
    have hy : ts[k]? = some ts[k] := List.getElem?_eq_getElem hk
    generalize ts[k] = y at hy
    have hok := allM_at next ts [] h (k + 1) m hm
    rw [List.nil_append, List.take_add_one, hy] at hok
    unfold okM at hok
    simp only [Option.toList_some, List.getLast?_append, List.getLast?_singleton, Option.some_or, Bool.and_eq_true] at hok
    have hb : befM y m = true := hok.2.2.1.1
    rw [List.take_add_one, hy] at hx
    rcases List.mem_append.1 hx with q | q
    · exact befM_trans (ih y hy x q) hb
    · simp at q; rw [q]; exact hb
theorem putsM_self {next : Int} : ∀ (r ahead : List Me), allM next [] (ahead ++ r) = true → putsM r ahead = ahead ++ r
  | [], ahead, h => by simp [putsM]
  | m :: r, ahead, h => by
    have hm : (ahead ++ m :: r)[ahead.length]? = some m := by simp
    have ha := chk_asc h ahead.length m hm
    rw [List.take_left] at ha
    rw [putsM, putM_last m ahead ha]
    have := putsM_self r (ahead ++ [m]) (by simpa using h)
    simpa using this
theorem app_whole {ts : List Me} {seq next : Int} (h : chkV ts seq next = true) : appM [] 0 1 [] ts seq next = (ts, 0) := by
  have h0 : chkV [] 0 1 = true := rfl
  have hb := h
  unfold chkV at hb
  simp only [Bool.and_eq_true, decide_eq_true_eq] at hb
  have hp := putsM_self ts [] (by simpa using hb.2)
  unfold appM
  rw [if_pos h0]
  simp only [dropsM]
  rw [if_neg (by omega), if_neg (by omega)]
  simp only [List.nil_append] at hp
  rw [hp, if_pos h]
theorem leM_not {s t : ByteArray} : leM s t = false ↔ Op.bytesLess t.toList s.toList = true := by
  unfold leM
  constructor
  · intro h
    simp only [Bool.or_eq_false_iff, beq_eq_false_iff_ne] at h
    cases q : Op.bytesLess t.toList s.toList
    · exact absurd (bl_totalM _ _ h.1 q) h.2
    · rfl
  · intro h
    simp only [Bool.or_eq_false_iff, beq_eq_false_iff_ne]
    refine ⟨?_, fun e => ?_⟩
    · cases q : Op.bytesLess s.toList t.toList
      · rfl
      · have := bl_transM _ _ _ q h
        rw [bl_selfM] at this
        cases this
    · rw [e, bl_selfM] at h
      cases h
theorem leM_lt {a b c : ByteArray} (h1 : leM a b = true) (h2 : Op.bytesLess b.toList c.toList = true) : Op.bytesLess a.toList c.toList = true := by
  unfold leM at h1
  simp only [Bool.or_eq_true, beq_iff_eq] at h1
  rcases h1 with h1 | h1
  · exact bl_transM _ _ _ h1 h2
  · rw [h1]; exact h2
end Go.Proofs.YtnchjlimkgbfpaaGreatDoor

namespace Go.Proofs.YtnchjlimkgbfpaaGreatDoor
open Go.RowKit
set_option linter.unusedVariables false
set_option maxRecDepth 20000
end Go.Proofs.YtnchjlimkgbfpaaGreatDoor

namespace Go.Proofs.YtnchjlimkgbfpaaGreatDoor
open Go.RowKit
set_option linter.unusedVariables false
set_option maxRecDepth 20000
set_option linter.unusedSimpArgs false
def txtE (s : ByteArray) : List Int := octets (s.size : Int) ++ nums s
def metO (m : Me) : List Int := octets m.id ++ (octets m.lvl ++ (octets m.cnt ++ (txtE m.low ++ txtE m.high)))
def metsO : List Me → List Int
  | [] => []
  | m :: r => metO m ++ metsO r
def idsO : List Int → List Int
  | [] => []
  | i :: r => octets i ++ idsO r
def edO (seq next : Int) (drop : List Int) (add : List Me) : List Int :=
  octets seq ++ (octets next ++ (octets (drop.length : Int) ++ (idsO drop ++ (octets (add.length : Int) ++ metsO add))))
def numE (n : Int) : Bool := decide (0 ≤ n ∧ n ≤ 1099511627776)
def metE (m : Me) : Bool := numE m.id && (numE m.lvl && (numE m.cnt && decide (m.low.size ≤ 96 ∧ m.high.size ≤ 96)))
def encE (seq next : Int) (drop : List Int) (add : List Me) : List Int × Int :=
  if 256 < drop.length ∨ 256 < add.length then ([], 3) else
    if (numE seq && (numE next && (drop.all numE && add.all metE))) = true then (edO seq next drop add, 0) else ([], 1)
theorem numE_iff {n : Int} : numE n = true ↔ 0 ≤ n ∧ n ≤ 1099511627776 := by unfold numE; simp
theorem metE_iff {m : Me} : metE m = true ↔ (0 ≤ m.id ∧ m.id ≤ 1099511627776) ∧ (0 ≤ m.lvl ∧ m.lvl ≤ 1099511627776) ∧ (0 ≤ m.cnt ∧ m.cnt ≤ 1099511627776) ∧ m.low.size ≤ 96 ∧ m.high.size ≤ 96 := by
  unfold metE; simp [numE_iff]
theorem encE_zero {s x : Int} {is : List Int} {ms : List Me} : (encE s x is ms).2 = 0 ↔ is.length ≤ 256 ∧ ms.length ≤ 256 ∧ numE s = true ∧ numE x = true ∧ (∀ i ∈ is, numE i = true) ∧ (∀ m ∈ ms, metE m = true) := by
  unfold encE
  by_cases h : 256 < is.length ∨ 256 < ms.length
  · rw [if_pos h]
    refine ⟨fun k => absurd k (by decide), fun k => by omega⟩
  · rw [if_neg h]
    by_cases h2 : (numE s && (numE x && (is.all numE && ms.all metE))) = true
    · rw [if_pos h2]
      refine ⟨fun _ => ?_, fun _ => rfl⟩
      simp only [Bool.and_eq_true, List.all_eq_true] at h2
      exact ⟨by omega, by omega, h2.1, h2.2.1, h2.2.2.1, h2.2.2.2⟩
    · rw [if_neg h2]
      refine ⟨fun k => absurd k (by decide), fun k => absurd ?_ h2⟩
      simp only [Bool.and_eq_true, List.all_eq_true]
      exact ⟨k.2.2.1, k.2.2.2.1, k.2.2.2.2.1, k.2.2.2.2.2⟩
theorem encE_good {s x : Int} {is : List Int} {ms : List Me} (h : (encE s x is ms).2 = 0) : encE s x is ms = (edO s x is ms, 0) := by
  obtain ⟨h1, h2, h3, h4, h5, h6⟩ := encE_zero.1 h
  unfold encE
  rw [if_neg (by omega), if_pos]
  simp only [Bool.and_eq_true, List.all_eq_true]
  exact ⟨h3, h4, h5, h6⟩
theorem encE_bad {s x : Int} {is : List Int} {ms : List Me} (h : (encE s x is ms).2 ≠ 0) : (encE s x is ms).1 = [] := by
  unfold encE at *
  by_cases h1 : 256 < is.length ∨ 256 < ms.length
  · rw [if_pos h1]
  · rw [if_neg h1] at h ⊢
    by_cases h2 : (numE s && (numE x && (is.all numE && ms.all metE))) = true
    · rw [if_pos h2] at h; exact absurd rfl h
    · rw [if_neg h2]
def OctA (l : List Int) : Prop := ∀ y ∈ l, 0 ≤ y ∧ y ≤ 255
theorem OctA.tail {l p r : List Int} (h : OctA l) (e : l = p ++ r) : OctA r := fun y hy => h y (by rw [e]; exact List.mem_append_right _ hy)
end Go.Proofs.YtnchjlimkgbfpaaGreatDoor

namespace Go.Proofs.YtnchjlimkgbfpaaGreatDoor
open Go.RowKit
set_option linter.unusedVariables false
set_option maxRecDepth 20000
set_option linter.unusedSimpArgs false
def meObj (m : Me) : Obj := .cells #[.int .i64 m.id, .int .i64 m.lvl, .int .i64 m.cnt, .string m.low, .string m.high] 139
set_option maxRecDepth 100000 in
theorem refBefM_any (a b : Me) (w : World) :
    Calls Tryz.prog 66 #[meV a, meV b] w fun e w' => e = .returned (.bool (befM a b)) ∧ w' = (w.alloc (meObj a)).alloc (meObj b) := by
  obtain ⟨ai, al, ac, alo, ahi⟩ := a
  obtain ⟨bi, bl, bc, blo, bhi⟩ := b
  unfold meV
  go_enter Tryz.func66, Tryz.ntmps66
  go_wp2
  all_goals
    go_ret
    refine ⟨?_, rfl⟩
    simp_all [befM]
set_option maxHeartbeats 1000000 in
set_option maxRecDepth 100000 in
theorem refMayM_any (m : Me) (w : World) :
    Calls Tryz.prog 65 #[meV m] w fun e w' => e = .returned (.bool (mayM m)) ∧ w' = w.alloc (meObj m) := by
  obtain ⟨i, l, c, lo, hi⟩ := m
  unfold meV
  go_enter Tryz.func65, Tryz.ntmps65
  go_wp2
  all_goals
    go_ret
    refine ⟨?_, by simp_all [meObj]⟩
    simp_all [mayM, keyM, leM]
    try first | omega | (intros; omega)
end Go.Proofs.YtnchjlimkgbfpaaGreatDoor

namespace Go.Proofs.YtnchjlimkgbfpaaGreatDoor
open Go.RowKit
set_option linter.unusedVariables false
set_option maxRecDepth 20000
set_option linter.unusedSimpArgs false
def MetsR (w : World) (v : Value) (l : List Me) : Prop := Rws 5 w v (l.map meRow)
theorem MetsR.up {w w' : World} {v : Value} {l : List Me} (h : MetsR w v l) (hb : Below w.heap.size w w') : MetsR w' v l := Rws.up h hb
theorem MetsR.len {w : World} {v : Value} {l : List Me} (h : MetsR w v l) : ∃ a cap, v = .slice a l.length cap ∧ l.length ≤ cap ∧ cap ≤ maxLen := by
  obtain ⟨a, c, e, h1, h2⟩ := Rws.len h
  simp only [List.length_map] at e h1
  exact ⟨a, c, e, h1, h2⟩
theorem MetsR.at {w : World} {v : Value} {l : List Me} (h : MetsR w v l) (k : Nat) (hk : k < l.length) :
    ∃ b off cap n, v = .slice (some ⟨b, off, none⟩) l.length cap ∧ l[k]? = some n ∧ w.cell? ⟨b, off + k * 5, none⟩ = some (.int .i64 n.id) ∧ w.cell? ⟨b, off + k * 5 + 1, none⟩ = some (.int .i64 n.lvl) ∧ w.cell? ⟨b, off + k * 5 + 2, none⟩ = some (.int .i64 n.cnt) ∧ w.cell? ⟨b, off + k * 5 + 3, none⟩ = some (.string n.low) ∧ w.cell? ⟨b, off + k * 5 + 4, none⟩ = some (.string n.high) := by
  obtain ⟨b, off, cap, e, _, _, hc⟩ := Rws.at h k (by simpa using hk)
  simp only [List.length_map] at e
  have hg : (l.map meRow).getD k [] = meRow l[k] := by simp [List.getD, hk]
  rw [hg] at hc
  refine ⟨b, off, cap, l[k], e, by simp [hk], ?_, ?_, ?_, ?_, ?_⟩
  · simpa using hc 0 _ rfl
  · simpa using hc 1 _ rfl
  · simpa using hc 2 _ rfl
  · simpa using hc 3 _ rfl
  · simpa using hc 4 _ rfl
theorem refMayP (m : Me) (x : Bool) (h : mayM m = x) (w : World) : Calls Tryz.prog 65 #[meV m] w fun e w' => e = .returned (.bool x) ∧ Below w.heap.size w w' := by
  refine (refMayM_any m w).mono ?_
  rintro e w' ⟨rfl, rfl⟩
  exact ⟨by rw [h], up_alloc _ _⟩
theorem refBefP (a b : Me) (x : Bool) (h : befM a b = x) (w : World) : Calls Tryz.prog 66 #[meV a, meV b] w fun e w' => e = .returned (.bool x) ∧ Below w.heap.size w w' := by
  refine (refBefM_any a b w).mono ?_
  rintro e w' ⟨rfl, rfl⟩
  exact ⟨by rw [h], up_al (up_alloc _ _) _⟩
def headM (next : Int) (p : Option Me) (m : Me) : Bool :=
  mayM m && (decide (m.id < next) && (match p with | none => true | some p => befM p m && !(decide (0 < m.lvl) && (decide (p.lvl = m.lvl) && leM m.low p.high))))
def lastM (l : List Me) (k : Nat) : Option Me := if k = 0 then none else l[k - 1]?
theorem lastM_take (l : List Me) (k : Nat) (hk : k ≤ l.length) : (l.take k).getLast? = lastM l k := by
  unfold lastM
  by_cases h : k = 0
  · subst h; simp
  · rw [if_neg h, List.getLast?_eq_getElem?, List.length_take, Nat.min_eq_left hk, List.getElem?_take_of_lt (by omega)]
theorem okM_eq (next : Int) (l : List Me) (k : Nat) (hk : k ≤ l.length) (m : Me) : okM next (l.take k) m = (headM next (lastM l k) m && (l.take k).all (fun p => decide (p.id ≠ m.id))) := by
  unfold okM headM
  rw [lastM_take l k hk]
  cases lastM l k <;> simp only [Bool.and_assoc]
theorem allM_step (next : Int) (l : List Me) (k : Nat) (m : Me) (h : l[k]? = some m) : allM next (l.take k) (l.drop k) = (okM next (l.take k) m && allM next (l.take (k + 1)) (l.drop (k + 1))) := by
  have hk := (List.getElem?_eq_some_iff.1 h).1
  rw [List.drop_eq_getElem_cons hk, (List.getElem?_eq_some_iff.1 h).2, allM, List.take_add_one, h]
  rfl
theorem errV_goes {ts : List Me} {seq next : Int} {k : Nat} {m : Me} (h : errV ts seq next = if allM next (ts.take k) (ts.drop k) = true then 0 else 9) (hm : ts[k]? = some m) (hh : headM next (lastM ts k) m = true) (hi : (ts.take k).all (fun p => decide (p.id ≠ m.id)) = true) : errV ts seq next = if allM next (ts.take (k + 1)) (ts.drop (k + 1)) = true then 0 else 9 := by
  rw [h, allM_step next ts k m hm, okM_eq next ts k (Nat.le_of_lt (List.getElem?_eq_some_iff.1 hm).1) m, hh, hi]
  rfl
theorem errV_ends {ts : List Me} {seq next : Int} {k : Nat} {m : Me} (h : errV ts seq next = if allM next (ts.take k) (ts.drop k) = true then 0 else 9) (hm : ts[k]? = some m) (hh : headM next (lastM ts k) m = false ∨ (ts.take k).all (fun p => decide (p.id ≠ m.id)) = false) : errV ts seq next = 9 := by
  rw [h, allM_step next ts k m hm, okM_eq next ts k (Nat.le_of_lt (List.getElem?_eq_some_iff.1 hm).1) m]
  rcases hh with hh | hh <;> rw [hh] <;> simp
theorem errV_done {ts : List Me} {seq next : Int} {k : Nat} (h : errV ts seq next = if allM next (ts.take k) (ts.drop k) = true then 0 else 9) (hk : ts.length ≤ k) : errV ts seq next = 0 := by
  rw [h, List.drop_eq_nil_of_le hk]; rfl
theorem errV_bad {ts : List Me} {seq next : Int} (h : ¬ (ts.length ≤ 256 ∧ 1 ≤ next ∧ next ≤ 2147483647 ∧ 0 ≤ seq ∧ seq ≤ 1099511627776)) : errV ts seq next = 9 := by
  unfold errV chkV
  rw [decide_eq_false h]
  simp
theorem errV_start {ts : List Me} {seq next : Int} (h : ts.length ≤ 256 ∧ 1 ≤ next ∧ next ≤ 2147483647 ∧ 0 ≤ seq ∧ seq ≤ 1099511627776) : errV ts seq next = if allM next (ts.take 0) (ts.drop 0) = true then 0 else 9 := by
  unfold errV chkV
  rw [decide_eq_true h]
  simp
end Go.Proofs.YtnchjlimkgbfpaaGreatDoor

namespace Go.Proofs.YtnchjlimkgbfpaaGreatDoor
open Go.RowKit
set_option linter.unusedVariables false
set_option maxRecDepth 20000
set_option linter.unusedSimpArgs false
def cmpS (s t : ByteArray) : Int := if Op.bytesLess s.toList t.toList = true then -1 else if Op.bytesLess t.toList s.toList = true then 1 else 0
def meBox (m : Me) : Obj := .cells #[.int .i64 m.id, .int .i64 m.lvl, .int .i64 m.cnt, .string m.low, .string m.high] 148
theorem cmpStr_any (s t : ByteArray) (w : World) : Calls Tryz.prog 180 #[.string s, .string t] w fun e w' => e = .returned (.int .i64 (cmpS s t)) ∧ w' = w := by
  have nan : ∀ n w, Calls Tryz.prog 205 #[.string n] w fun e w' => e = .returned (.bool false) ∧ w' = w := by
    intro n w
    go_enter Tryz.func205, Tryz.ntmps205
    go_wp2
    go_ret
    exact ⟨by simp, rfl⟩
  unfold cmpS
  go_enter Tryz.func180, Tryz.ntmps180
  go_wp2_with (go_at_call 205; refine (nan _ _).mono ?_; rintro e w1 ⟨rfl, rfl⟩)
  all_goals
    go_ret
    refine ⟨?_, rfl⟩
    try simp_all
    try (exact absurd (bl_totalM _ _ ‹Op.bytesLess s.toList t.toList = false› ‹Op.bytesLess t.toList s.toList = false›) ‹¬ s.toList = t.toList›)
def ordM (a b : Me) : Int := if cmpI a.lvl b.lvl = 0 then (if a.lvl = 0 then cmpI b.id a.id else cmpS a.low b.low) else cmpI a.lvl b.lvl
set_option maxRecDepth 100000 in
theorem order_any (a b : Me) (w : World) :
    Calls Tryz.prog 153 #[meV a, meV b] w fun e w' => e = .returned (.int .i64 (ordM a b)) ∧ w' = (w.alloc (meBox a)).alloc (meBox b) := by
  obtain ⟨ai, al, ac, alo, ahi⟩ := a
  obtain ⟨bi, bl, bc, blo, bhi⟩ := b
  unfold meV ordM
  simp only
  generalize h1 : cmpI al bl = c1
  generalize h2 : cmpI bi ai = c2
  generalize h3 : cmpS alo blo = c3
  have k1 : ∀ w, Calls Tryz.prog 170 #[.int .i64 al, .int .i64 bl] w fun e w' => e = .returned (.int .i64 c1) ∧ w' = w := fun w => h1 ▸ cmpInt_any _ _ _
  have k2 : ∀ w, Calls Tryz.prog 170 #[.int .i64 bi, .int .i64 ai] w fun e w' => e = .returned (.int .i64 c2) ∧ w' = w := fun w => h2 ▸ cmpInt_any _ _ _
  have k3 : ∀ w, Calls Tryz.prog 180 #[.string alo, .string blo] w fun e w' => e = .returned (.int .i64 c3) ∧ w' = w := fun w => h3 ▸ cmpStr_any _ _ _
  have K1 : Hid (∀ w, Calls Tryz.prog 170 #[.int .i64 al, .int .i64 bl] w fun e w' => e = .returned (.int .i64 c1) ∧ w' = w) := k1
  have K2 : Hid (∀ w, Calls Tryz.prog 170 #[.int .i64 bi, .int .i64 ai] w fun e w' => e = .returned (.int .i64 c2) ∧ w' = w) := k2
  have K3 : Hid (∀ w, Calls Tryz.prog 180 #[.string alo, .string blo] w fun e w' => e = .returned (.int .i64 c3) ∧ w' = w) := k3
  clear h1 h2 h3 k1 k2 k3
  by_cases z : c1 = 0
  · subst z
    by_cases y : al = 0
    · subst y
      go_enter Tryz.func153, Tryz.ntmps153
      go_wp2_with fail
      refine (K1.out _).mono ?_
      rintro e w1 ⟨rfl, rfl⟩
      go_wp2_with fail
      refine (K2.out _).mono ?_
      rintro e w1 ⟨rfl, rfl⟩
      go_wp2_with fail
      go_ret
      exact ⟨rfl, rfl⟩
    · have y' : (al == 0) = false := by simp [y]
      go_enter Tryz.func153, Tryz.ntmps153
      go_wp2_with fail
      refine (K1.out _).mono ?_
      rintro e w1 ⟨rfl, rfl⟩
      go_wp2_with fail
      refine (K3.out _).mono ?_
      rintro e w1 ⟨rfl, rfl⟩
      go_wp2_with fail
      go_ret
      refine ⟨?_, rfl⟩
      simp [y]
  · have z' : (c1 == 0) = false := by simp [z]
    go_enter Tryz.func153, Tryz.ntmps153
    go_wp2_with fail
    refine (K1.out _).mono ?_
    rintro e w1 ⟨rfl, rfl⟩
    go_wp2_with fail
    go_ret
    refine ⟨?_, rfl⟩
    simp [z]
theorem within_any (n a b : Int) (w : World) : Calls Tryz.prog 113 #[.int .i64 n, .int .i64 a, .int .i64 b] w fun e w' => e = .returned (.bool (decide (a ≤ n ∧ n ≤ b))) ∧ w' = w := by
  go_enter Tryz.func113, Tryz.ntmps113
  go_wp2
  all_goals
    go_ret
    refine ⟨?_, rfl⟩
    simp_all
    try omega
theorem numbersOf_any (m : Me) (w : World) : Calls Tryz.prog 119 #[meV m] w fun e w' => e = .returned (.agg #[.int .i64 m.id, .int .i64 m.lvl, .int .i64 m.cnt]) ∧ Hid (Below w.heap.size w w') := by
  obtain ⟨i, l, c, lo, hi⟩ := m
  unfold meV
  go_enter Tryz.func119, Tryz.ntmps119
  go_wp2
  go_returns
  exact ⟨rfl, up_al (up_alloc _ _) _⟩
theorem textsOf_any (m : Me) (w : World) : Calls Tryz.prog 120 #[meV m] w fun e w' => e = .returned (.agg #[.string m.low, .string m.high]) ∧ Hid (Below w.heap.size w w') := by
  obtain ⟨i, l, c, lo, hi⟩ := m
  unfold meV
  go_enter Tryz.func120, Tryz.ntmps120
  go_wp2
  go_returns
  exact ⟨rfl, up_al (up_alloc _ _) _⟩
end Go.Proofs.YtnchjlimkgbfpaaGreatDoor
