/- The texts X1, HLook, HBeg, FScanM, FCut, OMath, GGet, OCur, in this order. -/
import Derived.Test.YtnchjlimkgbfpaaGreatDoorE31
import Derived.Test.YtnchjlimkgbfpaaGreatDoorE22
import Derived.Test.YtnchjlimkgbfpaaGreatDoorE28
import Derived.Test.YtnchjlimkgbfpaaGreatDoorE09
import Derived.Test.YtnchjlimkgbfpaaGreatDoorE18
import Derived.Test.YtnchjlimkgbfpaaGreatDoorE02
import Derived.Test.YtnchjlimkgbfpaaGreatDoorVRefGet
import Derived.Test.YtnchjlimkgbfpaaGreatDoorE11
import Derived.Test.YtnchjlimkgbfpaaGreatDoorE07
import Derived.Test.YtnchjlimkgbfpaaGreatDoorVAgain

namespace Go.Proofs.YtnchjlimkgbfpaaGreatDoor
open Go.RowKit
set_option linter.unusedVariables false
set_option maxRecDepth 20000
theorem rank_at {A : Type} {p : A → Bool} {l : List A} {i : Nat} (hi : i < l.length) (h1 : ∀ j (hj : j < l.length), j < i → p l[j] = true) (h2 : p l[i] = false) : rankOf p l = i := by
  have e : l = l.take i ++ l[i] :: l.drop (i + 1) := by
    rw [List.getElem_cons_drop, List.take_append_drop]
  unfold rankOf
  rw [e, takeWhile_all]
  · rw [List.takeWhile_cons_of_neg (by rw [h2]; decide), List.append_nil, List.length_take]
    omega
  · intro x hx
    obtain ⟨j, hj, rfl⟩ := List.getElem_of_mem hx
    rw [List.length_take] at hj
    rw [List.getElem_take]
    exact h1 j (by omega) (by omega)
theorem rankN_at {l : List (List Int × Int)} (h : l.Pairwise fun a b => lessL a.1 b.1 = true) {i : Nat} (hi : i < l.length) : rankN l (l[i]).1 = i := by
  rw [List.pairwise_iff_getElem] at h
  exact rank_at hi (fun j hj hji => h j i hj hi hji) (lessL_self _)
theorem rankF_at {l : List (Int × List Int × Int)} (h : l.Pairwise fun a b => a.1 < b.1) {i : Nat} (hi : i < l.length) : rankF l (l[i]).1 = i := by
  rw [List.pairwise_iff_getElem] at h
  exact rank_at hi (fun j hj hji => by simpa using h j i hj hi hji) (by simp)
theorem named {s : St} (h : Good s) {i : Nat} (hi : i < s.names.length) : ∃ k, ∃ hk : k < s.files.length, (s.files[k]).1 = (s.names[i]).2 ∧ hasF s (s.names[i]).1 = true ∧ idxF s (s.names[i]).1 = k := by
  have hm := h.names.ids _ (List.getElem_mem hi)
  obtain ⟨f, hf, e⟩ := List.mem_map.1 hm
  obtain ⟨k, hk, rfl⟩ := List.getElem_of_mem hf
  have hr := rankN_at h.names.rise hi
  have hid : idN s (s.names[i]).1 = (s.names[i]).2 := by
    unfold idN
    rw [hr]
    simp [List.getD, hi]
  have hrk : rankF s.files (s.names[i]).2 = k := by
    rw [← e]
    exact rankF_at h.rise hk
  refine ⟨k, hk, e, ?_, ?_⟩
  · unfold hasF
    rw [hid]
    unfold thereN thereF
    rw [hr, hrk]
    simp [List.getD, hi, hk, e]
  · unfold idxF
    rw [hid, hrk]
theorem read_at {s : St} (h : Good s) {i k : Nat} (hi : i < s.names.length) (hk : k < s.files.length) (e : (s.files[k]).1 = (s.names[i]).2) : readP s (s.names[i]).1 = ((s.files[k]).2.1, 0) := by
  obtain ⟨j, hj, ej, hh, hx⟩ := named h hi
  have : j = k := by
    have h1 := rankF_at h.rise hj
    have h2 := rankF_at h.rise hk
    rw [ej] at h1
    rw [e] at h2
    omega
  subst this
  unfold readP
  rw [good_check h, hh]
  simp only [if_true]
  rw [hx]
  simp [fileD, List.getD, hj]
theorem list_good {s : St} (h : Good s) : listP s = (s.names.map (·.1), 0) := by
  unfold listP
  rw [good_check h]
  rfl
end Go.Proofs.YtnchjlimkgbfpaaGreatDoor

namespace Go.Proofs.YtnchjlimkgbfpaaGreatDoor
open Go.RowKit
set_option linter.unusedVariables false
set_option maxRecDepth 20000
set_option linter.unusedSimpArgs false
end Go.Proofs.YtnchjlimkgbfpaaGreatDoor

namespace Go.Proofs.YtnchjlimkgbfpaaGreatDoor
open Go.RowKit
set_option linter.unusedVariables false
set_option maxRecDepth 20000
set_option linter.unusedSimpArgs false
def curL : List Int := [67, 85, 82, 82, 69, 78, 84]
def Did (s : St) (a : Ac) (t : St) : Prop := actP s a = (t, 0)
theorem Did.good {s t : St} {a : Ac} (h : Did s a t) (g : Good s) : Good t := by
  have := act_good g a
  rw [h] at this
  exact this
end Go.Proofs.YtnchjlimkgbfpaaGreatDoor

namespace Go.Proofs.YtnchjlimkgbfpaaGreatDoor
open Go.RowKit SumPlain
set_option linter.unusedVariables false
set_option maxRecDepth 20000
def scanF : Nat → List Int → List (Int × List Int × Nat)
  | 0, _ => []
  | f + 1, b => if (fget b).2.2.2 = 0 then ((fget b).1, (fget b).2.1, (fget b).2.2.1.toNat) :: scanF f (b.drop (fget b).2.2.1.toNat) else []
def scanOf (b : List Int) : List (Int × List Int × Nat) := scanF (b.length + 1) b
def lenOf : List (Int × List Int × Nat) → Nat
  | [] => 0
  | x :: r => x.2.2 + lenOf r
theorem lenOf_append : ∀ (x y : List (Int × List Int × Nat)), lenOf (x ++ y) = lenOf x + lenOf y
  | [], y => by simp [lenOf]
  | a :: r, y => by simp only [List.cons_append, lenOf, lenOf_append r y]; omega
theorem fget_ok (b : List Int) (hx : ∀ x ∈ b, 0 ≤ x ∧ x ≤ 255) (h : (fget b).2.2.2 = 0) :
    ∃ n : Nat, (fget b).2.2.1 = (n : Int) ∧ 6 ≤ n ∧ n ≤ b.length ∧ (0 ≤ (fget b).1 ∧ (fget b).1 ≤ 255) ∧ (∀ x ∈ (fget b).2.1, 0 ≤ x ∧ x ≤ 255) ∧ (fget b).2.1.length ≤ 65536 ∧ n ≤ 65550 := by
  rcases get_says b hx with hg | hg | ⟨n, j, hg, n0, n1, j1, jl, ho, j9⟩
  · rw [fget_err (getRet_inj hg) (by decide)] at h; cases h
  · rw [fget_err (getRet_inj hg) (by decide)] at h; cases h
  · have hG := getRet_inj hg
    by_cases h1 : 65536 < n
    · rw [fget_long hG h1] at h; cases h
    obtain ⟨m, rfl⟩ : ∃ m : Nat, n = (m : Int) := ⟨n.toNat, by omega⟩
    by_cases h2 : b.length < j + 1 + m + 4
    · rw [fget_short hG h1 (by omega)] at h; cases h
    have hm : ((j : Int) + 1 + (m : Int) + 4).toNat = j + 1 + m + 4 := by omega
    obtain ⟨x, f, hb⟩ : ∃ x f, bareOf (b.take (j + 1 + m + 4)) = (x, f) := ⟨_, _, rfl⟩
    by_cases hf : f = 0
    · subst hf
      obtain ⟨h3, h4⟩ := bareOf_good hb
      rw [List.length_take] at h3
      have hxo : ∀ y ∈ x, 0 ≤ y ∧ y ≤ 255 := by
        intro y hy
        rw [h4] at hy
        exact hx y (List.mem_of_mem_take (List.mem_of_mem_take hy))
      rw [fget_good hG h1 (by omega) hm hb]
      refine ⟨j + 1 + m + 4, by simp, by omega, by omega, hxo _ (by simp only [List.getD, List.getElem?_eq_getElem (show j < x.length by omega)]; exact List.getElem_mem _), fun y hy => hxo y (List.mem_of_mem_drop hy), ?_, by omega⟩
      show (x.drop (j + 1)).length ≤ 65536
      rw [List.length_drop]
      omega
    · rw [fget_bad hG h1 (by omega) hm hb hf] at h; exact absurd h hf
theorem scanF_len : ∀ (f : Nat) (b : List Int), (∀ x ∈ b, 0 ≤ x ∧ x ≤ 255) → lenOf (scanF f b) ≤ b.length ∧ 6 * (scanF f b).length ≤ b.length
  | 0, b, _ => by simp [scanF, lenOf]
  | f + 1, b, hx => by
    unfold scanF
    split
    · rename_i h
      obtain ⟨n, hn, h6, hl, _⟩ := fget_ok b hx h
      have ih := scanF_len f (b.drop n) (fun x hx' => hx x (List.mem_of_mem_drop hx'))
      rw [List.length_drop] at ih
      rw [hn]
      simp only [lenOf, List.length_cons, Int.toNat_natCast]
      omega
    · simp [lenOf]
def ScanAt (b : List Int) (pre : List (Int × List Int × Nat)) (off f : Nat) : Prop :=
  scanOf b = pre ++ scanF f (b.drop off) ∧ lenOf pre = off ∧ off ≤ b.length ∧ b.length - off < f
theorem ScanAt.start (b : List Int) : ScanAt b [] 0 (b.length + 1) := ⟨by simp [scanOf], rfl, Nat.zero_le _, by omega⟩
theorem ScanAt.ends {b : List Int} {pre : List (Int × List Int × Nat)} {off f : Nat} (h : ScanAt b pre off f) (he : ¬ (fget (b.drop off)).2.2.2 = 0) : scanOf b = pre ∧ lenOf (scanOf b) = off := by
  obtain ⟨h1, h2, h3, h4⟩ := h
  obtain ⟨f', rfl⟩ : ∃ f', f = f' + 1 := ⟨f - 1, by omega⟩
  unfold scanF at h1
  rw [if_neg he, List.append_nil] at h1
  exact ⟨h1, by rw [h1]; exact h2⟩
theorem ScanAt.goes {b : List Int} (hx : ∀ x ∈ b, 0 ≤ x ∧ x ≤ 255) {pre : List (Int × List Int × Nat)} {off f n : Nat} (h : ScanAt b pre off f) (he : (fget (b.drop off)).2.2.2 = 0) (hn : (fget (b.drop off)).2.2.1 = (n : Int)) :
    ScanAt b (pre ++ [((fget (b.drop off)).1, (fget (b.drop off)).2.1, n)]) (off + n) (f - 1) ∧ 6 ≤ n ∧ off + n ≤ b.length := by
  obtain ⟨h1, h2, h3, h4⟩ := h
  obtain ⟨f', rfl⟩ : ∃ f', f = f' + 1 := ⟨f - 1, by omega⟩
  obtain ⟨n', hn', h6, hl, _⟩ := fget_ok (b.drop off) (fun x hx' => hx x (List.mem_of_mem_drop hx')) he
  rw [List.length_drop] at hl
  have : n' = n := by rw [hn] at hn'; omega
  subst this
  unfold scanF at h1
  rw [if_pos he, hn] at h1
  refine ⟨⟨?_, ?_, by omega, by omega⟩, h6, by omega⟩
  · rw [h1]
    simp [List.drop_drop]
  · rw [lenOf_append, h2]
    simp [lenOf]
end Go.Proofs.YtnchjlimkgbfpaaGreatDoor

namespace Go.Proofs.YtnchjlimkgbfpaaGreatDoor
open Go.RowKit SumPlain
set_option linter.unusedVariables false
set_option maxRecDepth 20000
end Go.Proofs.YtnchjlimkgbfpaaGreatDoor

namespace Go.Proofs.YtnchjlimkgbfpaaGreatDoor
open Go.RowKit
set_option linter.unusedVariables false
set_option linter.unusedSimpArgs false
set_option maxRecDepth 20000
def curOf (b : List Int) : Option Int :=
  if (fget b).2.2.2 = 0 ∧ (fget b).2.2.1 = (b.length : Int) ∧ (fget b).1 = 4 ∧ (getOf (fget b).2.1).2.2 = 0 ∧ (getOf (fget b).2.1).2.1 = ((fget b).2.1.length : Int) ∧ 1 ≤ (getOf (fget b).2.1).1 ∧ (getOf (fget b).2.1).1 ≤ 2147483647 then some (getOf (fget b).2.1).1 else none
abbrev Vn := List Me × Int × Int
def stepM (v : Vn) (k : Int) (d : List Int) : Option Vn :=
  if k = 5 then (match decE d with
    | .error _ => none
    | .ok (sq, nx, dr, ad) => if (appM v.1 v.2.1 v.2.2 dr ad sq nx).2 = 0 then some ((appM v.1 v.2.1 v.2.2 dr ad sq nx).1, sq, nx) else none)
  else none
def foldM : List (Int × List Int × Nat) → Vn → Option Vn
  | [], v => some v
  | r :: l, v => match stepM v r.1 r.2.1 with
    | none => none
    | some u => foldM l u
def madeM (b : List Int) : Option Vn := if scanOf b = [] then none else foldM (scanOf b) ([], 0, 1)
def loadP (s : St) : Vn × Int × Int :=
  if (readP s curL).2 = 0 then (match curOf (readP s curL).1 with
    | none => (([], 0, 0), 0, 21)
    | some id => if (readP s (nameN 109 id).1).2 = 0 then (match madeM (readP s (nameN 109 id).1).1 with
      | none => (([], 0, 0), 0, 21)
      | some v => (v, id, 0))
      else (([], 0, 0), 0, (readP s (nameN 109 id).1).2))
  else (([], 0, 0), 0, (readP s curL).2)
end Go.Proofs.YtnchjlimkgbfpaaGreatDoor

namespace Go.Proofs.YtnchjlimkgbfpaaGreatDoor
open Go.RowKit SumPlain
set_option linter.unusedVariables false
set_option maxRecDepth 20000
set_option maxHeartbeats 1000000 in
theorem rget_err_any (b : List Int) (n j e : Int) (v : Value) (w : World) (hv : Octs w v b) (hg : getRet b = .tuple #[.int .u64 n, .int .i64 j, .int .i64 e]) (he : e ≠ 0) :
    Calls Tryz.prog 97 #[v] w fun e' w' => e' = .returned (.tuple #[.agg #[.int .i64 0, .slice none 0 0], .int .i64 0, .int .i64 e]) ∧ Below w.heap.size w w' := by
  obtain ⟨a, cap, rfl, hcap, hmax⟩ := hv.len
  have HV : Hid (∀ o, Octs (w.alloc o) (.slice a b.length cap) b) := fun o => hv.up (up_alloc w o)
  have he' : (e == 0) = false := by simp [he]
  clear hv hcap hmax
  go_enter Tryz.func97, Tryz.ntmps97
  go_wp2_with fail
  refine (refGet_any b _ _ (HV.out _)).mono ?_
  rintro e1 w1 ⟨rfl, d, rfl⟩
  rw [hg]
  have B0 : Hid (((w.alloc (.cells #[.int .i64 0, .slice none 0 0] 104)).drewN d).heap[w.heap.size]? = some (.cells #[.int .i64 0, .slice none 0 0] 104)) := blk_up (blk_new w _) (up_drewN _ d)
  have U0 : Hid (Below w.heap.size w ((w.alloc (.cells #[.int .i64 0, .slice none 0 0] 104)).drewN d)) := up_trans (up_alloc w _) (up_drewN _ d)
  generalize (w.alloc (.cells #[.int .i64 0, .slice none 0 0] 104)).drewN d = w1 at *
  have q0 := blk_cell B0.out 0 _ rfl
  have q1 := blk_cell B0.out 1 _ rfl
  have z0 := blk_frozen B0.out 0
  have z1 := blk_frozen B0.out 1
  go_wp2
  refine bodyPost_ret (results_rec3 rfl (.inr rfl) _ _ rfl (set2_blk B0.out _ _)) rfl ?_
  exact ⟨rfl, U0.out.grown (set2_grown _ _ _ _) U0.out.size (fun k hk => by injection hk with hk; omega)⟩
set_option maxHeartbeats 1000000 in
theorem rget_long_any (b : List Int) (n j : Int) (v : Value) (w : World) (hv : Octs w v b) (hg : getRet b = .tuple #[.int .u64 n, .int .i64 j, .int .i64 0]) (hn : 65536 < n) :
    Calls Tryz.prog 97 #[v] w fun e' w' => e' = .returned (.tuple #[.agg #[.int .i64 0, .slice none 0 0], .int .i64 0, .int .i64 5]) ∧ Below w.heap.size w w' := by
  obtain ⟨a, cap, rfl, hcap, hmax⟩ := hv.len
  have HV : Hid (∀ o, Octs (w.alloc o) (.slice a b.length cap) b) := fun o => hv.up (up_alloc w o)
  clear hv hcap hmax
  go_enter Tryz.func97, Tryz.ntmps97
  go_wp2_with fail
  refine (refGet_any b _ _ (HV.out _)).mono ?_
  rintro e1 w1 ⟨rfl, d, rfl⟩
  rw [hg]
  have B0 : Hid (((w.alloc (.cells #[.int .i64 0, .slice none 0 0] 104)).drewN d).heap[w.heap.size]? = some (.cells #[.int .i64 0, .slice none 0 0] 104)) := blk_up (blk_new w _) (up_drewN _ d)
  have U0 : Hid (Below w.heap.size w ((w.alloc (.cells #[.int .i64 0, .slice none 0 0] 104)).drewN d)) := up_trans (up_alloc w _) (up_drewN _ d)
  generalize (w.alloc (.cells #[.int .i64 0, .slice none 0 0] 104)).drewN d = w1 at *
  have q0 := blk_cell B0.out 0 _ rfl
  have q1 := blk_cell B0.out 1 _ rfl
  have z0 := blk_frozen B0.out 0
  have z1 := blk_frozen B0.out 1
  go_wp2
  refine bodyPost_ret (results_rec3 rfl (.inr rfl) _ _ rfl (set2_blk B0.out _ _)) rfl ?_
  exact ⟨rfl, U0.out.grown (set2_grown _ _ _ _) U0.out.size (fun k hk => by injection hk with hk; omega)⟩
set_option maxHeartbeats 1000000 in
theorem rget_short_any (b : List Int) (n j : Nat) (v : Value) (w : World) (hv : Octs w v b) (hg : getRet b = .tuple #[.int .u64 (n : Int), .int .i64 (j : Int), .int .i64 0]) (hn : n ≤ 65536) (hj : j ≤ 9) (hl : b.length < j + 1 + n + 4) :
    Calls Tryz.prog 97 #[v] w fun e' w' => e' = .returned (.tuple #[.agg #[.int .i64 0, .slice none 0 0], .int .i64 0, .int .i64 8]) ∧ Below w.heap.size w w' := by
  have g0 : ¬ (65536 : Int) < (n : Int) := by omega
  have g1 : IntKind.i64.wrap (n : Int) = (n : Int) := by simp [IntKind.wrap, IntKind.bits, IntKind.signed]; omega
  have g2 : (b.length : Int) < (j : Int) + 1 + (n : Int) + 4 := by omega
  obtain ⟨a, cap, rfl, hcap, hmax⟩ := hv.len
  have HV : Hid (∀ o, Octs (w.alloc o) (.slice a b.length cap) b) := fun o => hv.up (up_alloc w o)
  clear hv hcap hmax
  go_enter Tryz.func97, Tryz.ntmps97
  go_wp2_with fail
  refine (refGet_any b _ _ (HV.out _)).mono ?_
  rintro e1 w1 ⟨rfl, d, rfl⟩
  rw [hg]
  have B0 : Hid (((w.alloc (.cells #[.int .i64 0, .slice none 0 0] 104)).drewN d).heap[w.heap.size]? = some (.cells #[.int .i64 0, .slice none 0 0] 104)) := blk_up (blk_new w _) (up_drewN _ d)
  have U0 : Hid (Below w.heap.size w ((w.alloc (.cells #[.int .i64 0, .slice none 0 0] 104)).drewN d)) := up_trans (up_alloc w _) (up_drewN _ d)
  generalize (w.alloc (.cells #[.int .i64 0, .slice none 0 0] 104)).drewN d = w1 at *
  have q0 := blk_cell B0.out 0 _ rfl
  have q1 := blk_cell B0.out 1 _ rfl
  have z0 := blk_frozen B0.out 0
  have z1 := blk_frozen B0.out 1
  go_wp2
  refine bodyPost_ret (results_rec3 rfl (.inr rfl) _ _ rfl (set2_blk B0.out _ _)) rfl ?_
  exact ⟨rfl, U0.out.grown (set2_grown _ _ _ _) U0.out.size (fun k hk => by injection hk with hk; omega)⟩
set_option maxHeartbeats 1000000 in
theorem rget_bare_any (b : List Int) (n j : Nat) (v : Value) (w : World) (hv : Octs w v b) (hg : getRet b = .tuple #[.int .u64 (n : Int), .int .i64 (j : Int), .int .i64 0]) (hn : n ≤ 65536) (hj : j ≤ 9) (hl : ¬ b.length < j + 1 + n + 4)
    (x : List Int) (f : Int) (hb : bareOf (b.take (j + 1 + n + 4)) = (x, f)) (hf : f ≠ 0) :
    Calls Tryz.prog 97 #[v] w fun e' w' => e' = .returned (.tuple #[.agg #[.int .i64 0, .slice none 0 0], .int .i64 0, .int .i64 f]) ∧ Below w.heap.size w w' := by
  have g0 : ¬ (65536 : Int) < (n : Int) := by omega
  have g1 : IntKind.i64.wrap (n : Int) = (n : Int) := by simp [IntKind.wrap, IntKind.bits, IntKind.signed]; omega
  have g2 : ¬ (b.length : Int) < (j : Int) + 1 + (n : Int) + 4 := by omega
  have hf' : (f == 0) = false := by simp [hf]
  obtain ⟨bb, off, cap0, rfl, hc0, hm0, _⟩ := hv.at 0 (by omega)
  generalize hcc : cap0 = cap at *
  clear hcc
  have HV : Hid (∀ o, Octs (w.alloc o) (.slice (some ⟨bb, off, none⟩) b.length cap) b) := fun o => hv.up (up_alloc w o)
  have HV1 : Hid (∀ o d, Octs ((w.alloc o).drewN d) (.slice (some ⟨bb, off, none⟩) (j + 1 + n + 4) cap) (b.take (j + 1 + n + 4))) := fun o d => (hv.up (up_trans (up_alloc w o) (up_drewN _ d))).cut rfl _ (by omega)
  unfold maxLen at hm0
  clear hv
  go_enter Tryz.func97, Tryz.ntmps97
  go_wp2_with fail
  refine (refGet_any b _ _ (HV.out _)).mono ?_
  rintro e1 w1 ⟨rfl, d, rfl⟩
  rw [hg]
  have B0 : Hid (((w.alloc (.cells #[.int .i64 0, .slice none 0 0] 104)).drewN d).heap[w.heap.size]? = some (.cells #[.int .i64 0, .slice none 0 0] 104)) := blk_up (blk_new w _) (up_drewN _ d)
  have U0 : Hid (Below w.heap.size w ((w.alloc (.cells #[.int .i64 0, .slice none 0 0] 104)).drewN d)) := up_trans (up_alloc w _) (up_drewN _ d)
  have HV2 : Hid (Octs ((w.alloc (.cells #[.int .i64 0, .slice none 0 0] 104)).drewN d) (.slice (some ⟨bb, off, none⟩) (j + 1 + n + 4) cap) (b.take (j + 1 + n + 4))) := HV1.out _ _
  generalize (w.alloc (.cells #[.int .i64 0, .slice none 0 0] 104)).drewN d = w1 at *
  have q0 := blk_cell B0.out 0 _ rfl
  have q1 := blk_cell B0.out 1 _ rfl
  have z0 := blk_frozen B0.out 0
  have z1 := blk_frozen B0.out 1
  go_wp2_with fail
  refine (refBare_any _ _ _ HV2.out (by rw [List.length_take]; omega)).mono ?_
  rintro e2 w2 ⟨v2, rfl, o2, b2⟩
  rw [hb] at o2 ⊢
  obtain ⟨a2, n2, c2, rfl, N2⟩ := own_shape o2
  have B2 : Hid (w2.heap[w.heap.size]? = some (.cells #[.int .i64 0, .slice none 0 0] 104)) := blk_up B0.out b2
  have U2 : Hid (Below w.heap.size w w2) := up_trans U0.out b2
  clear q0 q1 z0 z1 o2 b2
  have q0 := blk_cell B2.out 0 _ rfl
  have q1 := blk_cell B2.out 1 _ rfl
  have z0 := blk_frozen B2.out 0
  have z1 := blk_frozen B2.out 1
  go_wp2
  refine bodyPost_ret (results_rec3 rfl (.inr rfl) _ _ rfl (set2_blk B2.out _ _)) rfl ?_
  exact ⟨rfl, U2.out.grown (set2_grown _ _ _ _) U2.out.size (fun k hk => by injection hk with hk; omega)⟩
set_option maxHeartbeats 1000000 in
theorem rget_good_any (b : List Int) (n j : Nat) (v : Value) (w : World) (hv : Octs w v b) (hg : getRet b = .tuple #[.int .u64 (n : Int), .int .i64 (j : Int), .int .i64 0]) (hn : n ≤ 65536) (hj : j ≤ 9) (hl : ¬ b.length < j + 1 + n + 4)
    (x : List Int) (hb : bareOf (b.take (j + 1 + n + 4)) = (x, 0)) (hx : x.length = j + 1 + n) (hoct : ∀ y ∈ x, 0 ≤ y ∧ y ≤ 255) :
    Calls Tryz.prog 97 #[v] w fun e' w' => ∃ vd, e' = .returned (.tuple #[.agg #[.int .i64 (x.getD j 0), vd], .int .i64 ((j : Int) + 1 + (n : Int) + 4), .int .i64 0]) ∧ NewB w' w.heap.size vd (x.drop (j + 1)) ∧ Below w.heap.size w w' := by
  have g0 : ¬ (65536 : Int) < (n : Int) := by omega
  have g1 : IntKind.i64.wrap (n : Int) = (n : Int) := by simp [IntKind.wrap, IntKind.bits, IntKind.signed]; omega
  have g2 : ¬ (b.length : Int) < (j : Int) + 1 + (n : Int) + 4 := by omega
  obtain ⟨bb, off, cap0, rfl, hc0, hm0, _⟩ := hv.at 0 (by omega)
  generalize hcc : cap0 = cap at *
  clear hcc
  have HV : Hid (∀ o, Octs (w.alloc o) (.slice (some ⟨bb, off, none⟩) b.length cap) b) := fun o => hv.up (up_alloc w o)
  have HV1 : Hid (∀ o d, Octs ((w.alloc o).drewN d) (.slice (some ⟨bb, off, none⟩) (j + 1 + n + 4) cap) (b.take (j + 1 + n + 4))) := fun o d => (hv.up (up_trans (up_alloc w o) (up_drewN _ d))).cut rfl _ (by omega)
  unfold maxLen at hm0
  clear hv
  go_enter Tryz.func97, Tryz.ntmps97
  go_wp2_with fail
  refine (refGet_any b _ _ (HV.out _)).mono ?_
  rintro e1 w1 ⟨rfl, d, rfl⟩
  rw [hg]
  have B0 : Hid (((w.alloc (.cells #[.int .i64 0, .slice none 0 0] 104)).drewN d).heap[w.heap.size]? = some (.cells #[.int .i64 0, .slice none 0 0] 104)) := blk_up (blk_new w _) (up_drewN _ d)
  have U0 : Hid (Below w.heap.size w ((w.alloc (.cells #[.int .i64 0, .slice none 0 0] 104)).drewN d)) := up_trans (up_alloc w _) (up_drewN _ d)
  have HV2 : Hid (Octs ((w.alloc (.cells #[.int .i64 0, .slice none 0 0] 104)).drewN d) (.slice (some ⟨bb, off, none⟩) (j + 1 + n + 4) cap) (b.take (j + 1 + n + 4))) := HV1.out _ _
  generalize (w.alloc (.cells #[.int .i64 0, .slice none 0 0] 104)).drewN d = w1 at *
  have q0 := blk_cell B0.out 0 _ rfl
  have q1 := blk_cell B0.out 1 _ rfl
  have z0 := blk_frozen B0.out 0
  have z1 := blk_frozen B0.out 1
  go_wp2_with fail
  refine (refBare_any _ _ _ HV2.out (by rw [List.length_take]; omega)).mono ?_
  rintro e2 w2 ⟨v2, rfl, o2, b2⟩
  rw [hb] at o2 ⊢
  replace o2 : OwnB w2 w1.heap.size v2 x := o2
  have hne : x ≠ [] := by intro e; rw [e] at hx; simp at hx; omega
  obtain ⟨g, c2, rfl, hg1, hg2, hc2, hm2⟩ := own_form o2 hne
  have hs1 : w.heap.size < w1.heap.size := blk_lt B0.out
  have hO := Octs.own o2 hoct
  obtain ⟨g', off', cap', e', _, _, hcell⟩ := hO.at j (by omega)
  simp only [Value.slice.injEq, Option.some.injEq, Addr.mk.injEq] at e'
  obtain ⟨⟨rfl, rfl, _⟩, _, rfl⟩ := e'
  rw [Nat.zero_add] at hcell
  have HD : Hid (NewB w2 w.heap.size (.slice (some ⟨g, j + 1, none⟩) n (c2 - (j + 1))) (x.drop (j + 1))) := by
    have h := hO.back rfl (j + 1) (by omega) hc2
    rw [Nat.zero_add, show x.length - (j + 1) = n by omega] at h
    exact ⟨h, fun k hk => by simp [Value.ownBlock] at hk; omega⟩
  have HD0 : Hid (n = 0 → NewB w2 w.heap.size (.slice (some ⟨g, 0, none⟩) n 0) (x.drop (j + 1))) := by
    rintro rfl
    have e : x.drop (j + 1) = [] := List.drop_eq_nil_iff.2 (by omega)
    rw [e]
    exact ⟨⟨by simp, .inl ⟨rfl, _, _, rfl, fun h => by cases h⟩⟩, fun k hk => by simp [Value.ownBlock] at hk; omega⟩
  have HNE : Hid (g ≠ w.heap.size) := by unfold Hid; omega
  have B2 : Hid (w2.heap[w.heap.size]? = some (.cells #[.int .i64 0, .slice none 0 0] 104)) := blk_up B0.out b2
  have U2 : Hid (Below w.heap.size w w2) := up_trans U0.out b2
  have hk := hO.oct j (by omega)
  have g5 : x.length - (j + 1) = n := by omega
  have hjx : j < x.length := by omega
  have hjx' : j + 1 ≤ x.length := by omega
  clear q0 q1 z0 z1 o2 b2 hO
  have q0 := blk_cell B2.out 0 _ rfl
  have q1 := blk_cell B2.out 1 _ rfl
  have z0 := blk_frozen B2.out 0
  have z1 := blk_frozen B2.out 1
  obtain ⟨kd, hkd⟩ : ∃ kd, x.getD j 0 = kd := ⟨_, rfl⟩
  rw [hkd] at hcell hk
  have HK : Hid (x[j]?.getD 0 = kd) := by unfold Hid; rw [← hkd]; rfl
  have HK2 : Hid (x.getD j 0 = kd) := hkd
  have hkw : IntKind.i64.wrap kd = kd := by simp [IntKind.wrap, IntKind.bits, IntKind.signed]; omega
  clear hkd
  have HC : Hid (∀ (o : Nat) (cx : Nat), ((o = j + 1 ∧ cx = c2 - (j + 1)) ∨ (n = 0 ∧ o = 0 ∧ cx = 0)) → Calls Tryz.prog 95 #[.slice (some ⟨g, o, none⟩) n cx] w2.drew fun e w' => ∃ a' n' c', e = .returned (.slice a' n' c') ∧ w'.cell? ⟨g, j, none⟩ = some (.int .u8 kd) ∧
      w'.cell? ⟨w.heap.size, 0, none⟩ = some (.int .i64 0) ∧ w'.cell? ⟨w.heap.size, 1, none⟩ = some (.slice none 0 0) ∧ w'.frozen? ⟨w.heap.size, 0, none⟩ = false ∧ w'.frozen? ⟨w.heap.size, 1, none⟩ = false ∧
      Hid (NewB w' w2.heap.size (.slice a' n' c') (x.drop (j + 1))) ∧ Hid (w'.heap[w.heap.size]? = some (.cells #[.int .i64 0, .slice none 0 0] 104)) ∧ Hid (Below w.heap.size w w')) := by
    intro o cx ho
    have hO2 : Octs w2 (.slice (some ⟨g, o, none⟩) n cx) (x.drop (j + 1)) := by
      rcases ho with ⟨rfl, rfl⟩ | ⟨h1, rfl, rfl⟩
      · exact HD.out.1
      · exact (HD0.out h1).1
    have hlen : (x.drop (j + 1)).length = n := by rw [List.length_drop]; omega
    refine (copied_any (x.drop (j + 1)) _ _ (hO2.up (up_dr (Below.refl _ _))) (by omega)).mono ?_
    rintro e w' ⟨v', rfl, ho', hb'⟩
    obtain ⟨a', n', c', rfl, _⟩ := own_shape ho'
    have hb2 : Below w2.heap.size w2 w' := up_trans (up_dr (Below.refl _ _)) hb'
    have d1 := blk_up B2.out hb2
    have hg : g < w2.heap.size := by
      rcases Nat.lt_or_ge g w2.heap.size with h | h
      · exact h
      · simp [World.cell?, Array.getElem?_eq_none h] at hcell
    refine ⟨a', n', c', rfl, ?_, blk_cell d1 0 _ rfl, blk_cell d1 1 _ rfl, blk_frozen d1 0, blk_frozen d1 1, ?_, d1, up_trans U2.out hb2⟩
    · rw [hb2.cell (p := ⟨g, j, none⟩) hg]; exact hcell
    · exact (OwnB.fresh ho' (fun y hy => hoct y (List.mem_of_mem_drop hy)))
  have HS2 : Hid (w.heap.size < w2.heap.size) := blk_lt B2.out
  have HXL : Hid (x.length = j + 1 + n) := hx
  obtain ⟨N, hN⟩ : ∃ N, N = x.length := ⟨_, rfl⟩
  have j1 : (j : Int) < (N : Int) := by omega
  have j2 : (j : Int) + 1 ≤ (N : Int) := by omega
  have j3 : (N : Int) ≤ (c2 : Int) := by omega
  have j4 : (j : Int) + 1 ≤ (c2 : Int) := by omega
  have j5 : 0 ≤ (j : Int) + 1 := by omega
  have j6 : N - (j + 1) = n := by omega
  have j7 : j < N := by omega
  have j8 : j + 1 ≤ N := by omega
  have j9' : IntKind.i64.wrap ((j : Int) + 1) = (j : Int) + 1 := by simp [IntKind.wrap, IntKind.bits, IntKind.signed]; omega
  rw [← hN] at hc2 ⊢
  clear q0 q1 z0 z1 hx g5 hjx hjx' hN
  by_cases hcj : c2 = j + 1
  · have hn0 : Hid (n = 0) := by have := HXL.out; unfold Hid; omega
    subst hcj
    go_wp2_with fail
    go_region_held3 (fun w' => w'.cell? ⟨g, j, none⟩ = some (.int .u8 kd)) (first | with_reducible exact qc | with_reducible exact hcell | (simp [go_sem, hcell]; done) | (simp [go_sem, qc]; done)) (first
      | (go_at_call 95; with_reducible refine (HC.out 0 0 (.inr ⟨hn0.out, rfl, rfl⟩)).mono ?_; rintro e w' ⟨a', n', c', rfl, qc, q0, q1, z0, z1, hnb, hbk, hbl⟩))
    all_goals
      go_wp2_with fail
      refine bodyPost_ret (results_rec3 rfl (.inr rfl) _ _ rfl (set2_blk hbk.out _ _)) rfl ?_
      first | rw [HK.out] | rw [HK2.out]
      refine ⟨_, rfl, (hnb.out.far (set2_grown _ _ _ _) (fun k hk e => ?_)).mono U2.out.size, hbl.out.grown (set2_grown _ _ _ _) hbl.out.size (fun k hk => ?_)⟩
      · have h1 := hnb.out.2 k hk
        have := HS2.out
        simp at e
        omega
      · simp at hk; omega
  · go_wp2_with fail
    go_region_held3 (fun w' => w'.cell? ⟨g, j, none⟩ = some (.int .u8 kd)) (first | with_reducible exact qc | with_reducible exact hcell | (simp [go_sem, hcell]; done) | (simp [go_sem, qc]; done)) (first
      | (go_at_call 95; with_reducible refine (HC.out (j + 1) (c2 - (j + 1)) (.inl ⟨rfl, rfl⟩)).mono ?_; rintro e w' ⟨a', n', c', rfl, qc, q0, q1, z0, z1, hnb, hbk, hbl⟩))
    all_goals
      go_wp2_with fail
      refine bodyPost_ret (results_rec3 rfl (.inr rfl) _ _ rfl (set2_blk hbk.out _ _)) rfl ?_
      first | rw [HK.out] | rw [HK2.out]
      refine ⟨_, rfl, (hnb.out.far (set2_grown _ _ _ _) (fun k hk e => ?_)).mono U2.out.size, hbl.out.grown (set2_grown _ _ _ _) hbl.out.size (fun k hk => ?_)⟩
      · have h1 := hnb.out.2 k hk
        have := HS2.out
        simp at e
        omega
      · simp at hk; omega
theorem rget_any (b : List Int) (v : Value) (w : World) (hv : Octs w v b) :
    Calls Tryz.prog 97 #[v] w fun e w' => ∃ vd, e = .returned (.tuple #[.agg #[.int .i64 (fget b).1, vd], .int .i64 (fget b).2.2.1, .int .i64 (fget b).2.2.2]) ∧ NewB w' w.heap.size vd (fget b).2.1 ∧ Below w.heap.size w w' := by
  have bad : ∀ e, fget b = (0, [], 0, e) → (Calls Tryz.prog 97 #[v] w fun e' w' => e' = .returned (.tuple #[.agg #[.int .i64 0, .slice none 0 0], .int .i64 0, .int .i64 e]) ∧ Below w.heap.size w w') →
      Calls Tryz.prog 97 #[v] w fun e w' => ∃ vd, e = .returned (.tuple #[.agg #[.int .i64 (fget b).1, vd], .int .i64 (fget b).2.2.1, .int .i64 (fget b).2.2.2]) ∧ NewB w' w.heap.size vd (fget b).2.1 ∧ Below w.heap.size w w' := by
    intro e he hc
    refine hc.mono ?_
    rintro e' w' ⟨rfl, hb⟩
    rw [he]
    exact ⟨_, rfl, NewB.nil _ _, hb⟩
  rcases get_says b hv.1 with hg | hg | ⟨n, j, hg, n0, n1, j1, jl, ho, j9⟩
  · exact bad 8 (fget_err (getRet_inj hg) (by decide)) (rget_err_any b 0 0 8 v w hv hg (by decide))
  · exact bad 4 (fget_err (getRet_inj hg) (by decide)) (rget_err_any b 0 0 4 v w hv hg (by decide))
  · have hG := getRet_inj hg
    by_cases h1 : 65536 < n
    · exact bad 5 (fget_long hG h1) (rget_long_any b n j v w hv hg h1)
    obtain ⟨m, rfl⟩ : ∃ m : Nat, n = (m : Int) := ⟨n.toNat, by omega⟩
    by_cases h2 : b.length < j + 1 + m + 4
    · exact bad 8 (fget_short hG h1 (by omega)) (rget_short_any b m j v w hv hg (by omega) j9 h2)
    have hm : ((j : Int) + 1 + (m : Int) + 4).toNat = j + 1 + m + 4 := by omega
    obtain ⟨x, f, hb⟩ : ∃ x f, bareOf (b.take (j + 1 + m + 4)) = (x, f) := ⟨_, _, rfl⟩
    by_cases hf : f = 0
    · subst hf
      obtain ⟨h3, h4⟩ := bareOf_good hb
      rw [List.length_take] at h3
      rw [fget_good hG h1 (by omega) hm hb]
      refine rget_good_any b m j v w hv hg (by omega) j9 h2 x hb (by omega) ?_
      intro y hy
      rw [h4] at hy
      exact hv.1 y (List.mem_of_mem_take (List.mem_of_mem_take hy))
    · exact bad f (fget_bad hG h1 (by omega) hm hb hf) (rget_bare_any b m j v w hv hg (by omega) j9 h2 x f hb hf)
end Go.Proofs.YtnchjlimkgbfpaaGreatDoor

namespace Go.Proofs.YtnchjlimkgbfpaaGreatDoor
open Go.RowKit
set_option linter.unusedVariables false
set_option linter.unusedSimpArgs false
set_option maxRecDepth 20000
def curR (o : Option Int) : Value := match o with
  | none => .tuple #[.int .i64 0, .int .i64 21]
  | some id => .tuple #[.int .i64 id, .int .i64 0]
theorem curOf_none {b : List Int} (h : ¬ ((fget b).2.2.2 = 0 ∧ (fget b).2.2.1 = (b.length : Int) ∧ (fget b).1 = 4 ∧ (getOf (fget b).2.1).2.2 = 0 ∧ (getOf (fget b).2.1).2.1 = ((fget b).2.1.length : Int) ∧ 1 ≤ (getOf (fget b).2.1).1 ∧ (getOf (fget b).2.1).1 ≤ 2147483647)) : curR (curOf b) = .tuple #[.int .i64 0, .int .i64 21] := by
  unfold curOf
  rw [if_neg h]
  rfl
theorem getOf_range {l : List Int} (hx : ∀ x ∈ l, 0 ≤ x ∧ x ≤ 255) : 0 ≤ (getOf l).1 ∧ (getOf l).1 ≤ 18446744073709551615 := by
  rcases get_says l hx with h | h | ⟨n, j, h, h0, h1, _⟩
  · rw [getRet_inj h]; simp
  · rw [getRet_inj h]; simp
  · rw [getRet_inj h]; exact ⟨h0, h1⟩
set_option maxHeartbeats 4000000 in
theorem curID_any (b : List Int) (v : Value) (w : World) (hv : Octs w v b) :
    Calls Tryz.prog 51 #[v] w fun e w' => e = .returned (curR (curOf b)) ∧ Hid (Below w.heap.size w w') := by
  have HF := hid (fget_any b v w hv)
  obtain ⟨av, cv, ev, _⟩ := hv.slice
  subst ev
  have HBl : Hid (b.length = b.length) := rfl
  have HNo := hid (@curOf_none b)
  have HYe : Hid (curOf b = if (fget b).2.2.2 = 0 ∧ (fget b).2.2.1 = (b.length : Int) ∧ (fget b).1 = 4 ∧ (getOf (fget b).2.1).2.2 = 0 ∧ (getOf (fget b).2.1).2.1 = ((fget b).2.1.length : Int) ∧ 1 ≤ (getOf (fget b).2.1).1 ∧ (getOf (fget b).2.1).1 ≤ 2147483647 then some (getOf (fget b).2.1).1 else none) := rfl
  obtain ⟨k, hk⟩ : ∃ k, k = (fget b).1 := ⟨_, rfl⟩
  obtain ⟨d, hd⟩ : ∃ d, d = (fget b).2.1 := ⟨_, rfl⟩
  obtain ⟨z, hz⟩ : ∃ z, z = (fget b).2.2.1 := ⟨_, rfl⟩
  obtain ⟨y, hy⟩ : ∃ y, y = (fget b).2.2.2 := ⟨_, rfl⟩
  rw [← hk, ← hd, ← hz, ← hy] at HF HNo HYe
  clear hk hd hz hy hv HBl
  go_enter Tryz.func51, Tryz.ntmps51
  go_wp2_with fail
  refine HF.out.mono ?_
  rintro e w1 ⟨vd, rfl, hN, hb⟩
  have U1 : Hid (Below w.heap.size w w1) := hb
  obtain ⟨ad, cd, ed, _⟩ := hN.1.slice
  subst ed
  have O1 := hid hN.1
  have HN0 := hid (getOf_range hN.1.1)
  have U2 : Hid (Below w.heap.size w (w1.alloc (.cells #[.int .i64 k, .slice ad d.length cd] 154))) := up_al U1.out _
  clear hN hb HF
  by_cases c1 : y = 0
  case neg =>
    have c1b : (y != 0) = true := by simpa using c1
    have c1c : (y = 0) = False := by simpa using c1
    have HR := hid (HNo.out (fun q => c1 q.1))
    clear HNo HYe c1
    go_wp2_with fail
    go_ret2
    rw [HR.out]
    exact ⟨rfl, U2⟩
  subst c1
  by_cases c2 : z = (b.length : Int)
  case neg =>
    have c2b : (z != (b.length : Int)) = true := by simpa using c2
    have c2d : (z = (b.length : Int)) = False := by simpa using c2
    have HR := hid (HNo.out (fun q => c2 q.2.1))
    clear HNo HYe c2
    go_wp2_with fail
    go_ret2
    rw [HR.out]
    exact ⟨rfl, U2⟩
  have c2b : (z != (b.length : Int)) = false := by simpa using c2
  have c2d : (z = (b.length : Int)) = True := by simpa using c2
  by_cases c3 : k = 4
  case neg =>
    have c3b : (k != 4) = true := by simpa using c3
    have c3c : (k = 4) = False := by simpa using c3
    have HR := hid (HNo.out (fun q => c3 q.2.2.1))
    clear HNo HYe c3 c2
    go_wp2_with fail
    go_ret2
    rw [HR.out]
    exact ⟨rfl, U2⟩
  subst c3
  obtain ⟨n, hn⟩ : ∃ n, n = (getOf d).1 := ⟨_, rfl⟩
  obtain ⟨j, hj⟩ : ∃ j, j = (getOf d).2.1 := ⟨_, rfl⟩
  obtain ⟨f, hf⟩ : ∃ f, f = (getOf d).2.2 := ⟨_, rfl⟩
  have HG : Hid (Calls Tryz.prog 90 #[.slice ad d.length cd] (w1.alloc (.cells #[.int .i64 4, .slice ad d.length cd] 154)) fun e w' => e = .returned (.tuple #[.int .u64 n, .int .i64 j, .int .i64 f]) ∧ Below (w1.alloc (.cells #[.int .i64 4, .slice ad d.length cd] 154)).heap.size (w1.alloc (.cells #[.int .i64 4, .slice ad d.length cd] 154)) w') := by
    refine (get_any d _ _ (O1.out.up (up_alloc _ _))).mono ?_
    rintro e w' ⟨rfl, m, rfl⟩
    rw [hn, hj, hf]
    exact ⟨rfl, up_drewN _ _⟩
  rw [← hn] at HN0
  rw [← hn, ← hj, ← hf] at HNo HYe
  clear hn hj hf
  have HYe2 : Hid (f = 0 → j = (d.length : Int) → 1 ≤ n → n ≤ 2147483647 → curR (curOf b) = .tuple #[.int .i64 n, .int .i64 0]) := by
    intro q1 q2 q3 q4
    rw [HYe.out, if_pos ⟨rfl, c2, rfl, q1, q2, q3, q4⟩]
    rfl
  have HNo2 : Hid (¬ (f = 0 ∧ j = (d.length : Int) ∧ 1 ≤ n ∧ n ≤ 2147483647) → curR (curOf b) = .tuple #[.int .i64 0, .int .i64 21]) := fun q => HNo.out (fun h => q ⟨h.2.2.2.1, h.2.2.2.2.1, h.2.2.2.2.2.1, h.2.2.2.2.2.2⟩)
  clear HYe HNo
  clear c2
  go_wp2_with fail
  refine HG.out.mono ?_
  rintro e w2 ⟨rfl, hb2⟩
  have U3 : Hid (Below w.heap.size w w2) := up_trans U2.out hb2
  have q0 := blk_cell (blk_up (blk_new w1 (.cells #[.int .i64 4, .slice ad d.length cd] 154)) hb2) 0 _ rfl
  have q1 := blk_cell (blk_up (blk_new w1 (.cells #[.int .i64 4, .slice ad d.length cd] 154)) hb2) 1 _ rfl
  clear hb2 HG
  by_cases c4 : f = 0
  case neg =>
    have c4b : (f != 0) = true := by simpa using c4
    have c4c : (f = 0) = False := by simpa using c4
    have HR := hid (HNo2.out (fun q => c4 q.1))
    clear HNo2 HYe2 c4
    go_wp2_with fail
    go_ret2
    rw [HR.out]
    exact ⟨rfl, U3⟩
  subst c4
  by_cases c5 : j = (d.length : Int)
  case neg =>
    have c5b : (j != (d.length : Int)) = true := by simpa using c5
    have c5d : (j = (d.length : Int)) = False := by simpa using c5
    have HR := hid (HNo2.out (fun q => c5 q.2.1))
    clear HNo2 HYe2 c5
    go_wp2_with fail
    go_ret2
    rw [HR.out]
    exact ⟨rfl, U3⟩
  have c5b : (j != (d.length : Int)) = false := by simpa using c5
  have c5d : (j = (d.length : Int)) = True := by simpa using c5
  have HYe3 : Hid (1 ≤ n → n ≤ 2147483647 → curR (curOf b) = .tuple #[.int .i64 n, .int .i64 0]) := fun h1 h2 => HYe2.out rfl c5 h1 h2
  have HNo3 : Hid (¬ (1 ≤ n ∧ n ≤ 2147483647) → curR (curOf b) = .tuple #[.int .i64 0, .int .i64 21]) := fun q => HNo2.out (fun h => q ⟨h.2.2.1, h.2.2.2⟩)
  clear HYe2 HNo2 c5
  by_cases c6 : n ≤ 2147483647
  case neg =>
    have c6b : 2147483647 < n := by omega
    have HR := hid (HNo3.out (fun q => c6 q.2))
    clear HNo3 HYe3 c6
    go_wp2_with fail
    go_ret2
    rw [HR.out]
    exact ⟨rfl, U3⟩
  have c6b : ¬ 2147483647 < n := by omega
  have hwr : IntKind.i64.wrap n = n := by
    have := HN0.out
    rw [IntKind.wrap_i64]
    omega
  have HI := hid (isID_any n w2)
  by_cases c7 : 1 ≤ n
  · have hi : idOk n = true := by simp [idOk, c6, c7]
    rw [hi] at HI
    have HR := hid (HYe3.out c7 c6)
    clear HNo3 HYe3 c6 c7 hi
    go_wp2_with fail
    refine HI.out.mono ?_
    rintro e w3 ⟨rfl, rfl⟩
    go_wp2_with fail
    go_ret2
    rw [HR.out]
    exact ⟨rfl, U3⟩
  · have hi : idOk n = false := by simp [idOk, c7]
    rw [hi] at HI
    have HR := hid (HNo3.out (fun q => c7 q.1))
    clear HNo3 HYe3 c6 c7 hi
    go_wp2_with fail
    refine HI.out.mono ?_
    rintro e w3 ⟨rfl, rfl⟩
    go_wp2_with fail
    go_ret2
    rw [HR.out]
    exact ⟨rfl, U3⟩
end Go.Proofs.YtnchjlimkgbfpaaGreatDoor
