/- A job's octets, plainly. -/
import Derived.Test.YtpjmieiajhhbaaaDoorJIn
import Derived.Test.YtpjmieiajhhbaaaDoorGX
import Derived.Test.YtpjmieiajhhbaaaDoorGW
import Derived.Test.YtpjmieiajhhbaaaDoorJLea

/- The document's Encode. -/
namespace Go.Proofs.YtpjmieiajhhbaaaDoor
open Go.RowKit
set_option linter.unusedVariables false
set_option linter.unusedSimpArgs false

def textO (l : List Int) : List Int := octets (l.length : Int) ++ l
def catO (l : List Int) : List Int := (l.map octets).flatten
def catT (l : List (List Int)) : List Int := (l.map textO).flatten
def encJ (j : Jb) : List Int := catO (numsJ j) ++ catT (textsJ j)
def encP (j : Jb) : List Int × Int := if chkJ j ≠ 0 then ([], 9) else (encJ j, 0)
theorem catO_take (l : List Int) (k : Nat) (h : k < l.length) : catO (l.take (k + 1)) = catO (l.take k) ++ octets (l.getD k 0) := by
  unfold catO
  rw [List.take_add_one, List.map_append, List.flatten_append]
  simp [List.getD, h]
theorem catT_take (l : List (List Int)) (k : Nat) (h : k < l.length) : catT (l.take (k + 1)) = catT (l.take k) ++ octets ((l.getD k []).length : Int) ++ l.getD k [] := by
  unfold catT
  rw [List.take_add_one, List.map_append, List.flatten_append]
  simp [List.getD, h, textO]
theorem keep_blk {w w' : World} {base : Nat} {v : Value} {l : List Int} {B : Nat} {cs : Array Value} {t : TypeId} {fr : Nat × Nat} (h : w.heap[B]? = some (.cells cs t fr)) (ho : OwnB w base v l) (g : w.grownBy w' v.ownBlock) (hne : 5 ≠ t) : w'.heap[B]? = some (.cells cs t fr) := by
  rcases own_blk_ne ho h hne with e | e
  · exact blk_grown h g (by rw [e]; simp)
  · exact blk_grown h g (fun q => e q.symm)
def intsC (l : List Int) : Array Value := (l.map (Value.int .i64)).toArray
def strsC (l : List (List Int)) : Array Value := (l.map fun x => Value.string (strOfNums x)).toArray
theorem intsC_at {l : List Int} {k : Nat} (h : k < l.length) : (intsC l)[k]? = some (.int .i64 (l.getD k 0)) := by simp [intsC, List.getD, h]
theorem strsC_at {l : List (List Int)} {k : Nat} (h : k < l.length) : (strsC l)[k]? = some (.string (strOfNums (l.getD k []))) := by simp [strsC, List.getD, h]
theorem catO_len (l : List Int) (h : ∀ x ∈ l, 0 ≤ x ∧ x ≤ 1099511627776) : (catO l).length ≤ 9 * l.length ∧ ∀ y ∈ catO l, 0 ≤ y ∧ y ≤ 255 := by
  induction l with
  | nil => exact ⟨Nat.le_refl _, fun y hy => by cases hy⟩
  | cons x l ih =>
    obtain ⟨h1, h2⟩ := ih fun y hy => h y (List.mem_cons_of_mem _ hy)
    obtain ⟨x0, x1⟩ := h x List.mem_cons_self
    have o := octets_len x x0 (by omega)
    have e : catO (x :: l) = octets x ++ catO l := rfl
    rw [e]
    refine ⟨by rw [List.length_append, List.length_cons]; omega, fun y hy => ?_⟩
    rcases List.mem_append.1 hy with hy | hy
    · exact octets_octet x x0 (by omega) y hy
    · exact h2 y hy
theorem catT_len (l : List (List Int)) (h : ∀ x ∈ l, x.length ≤ 200 ∧ ∀ y ∈ x, 0 ≤ y ∧ y ≤ 255) : (catT l).length ≤ 209 * l.length ∧ ∀ y ∈ catT l, 0 ≤ y ∧ y ≤ 255 := by
  induction l with
  | nil => exact ⟨Nat.le_refl _, fun y hy => by cases hy⟩
  | cons x l ih =>
    obtain ⟨h1, h2⟩ := ih fun y hy => h y (List.mem_cons_of_mem _ hy)
    obtain ⟨x0, x1⟩ := h x List.mem_cons_self
    have o := octets_len (x.length : Int) (by omega) (by omega)
    have e : catT (x :: l) = (octets (x.length : Int) ++ x) ++ catT l := rfl
    rw [e]
    refine ⟨by rw [List.length_append, List.length_append, List.length_cons]; omega, fun y hy => ?_⟩
    rcases List.mem_append.1 hy with hy | hy
    · rcases List.mem_append.1 hy with hy | hy
      · exact octets_octet (x.length : Int) (by omega) (by omega) y hy
      · exact x1 y hy
    · exact h2 y hy
end Go.Proofs.YtpjmieiajhhbaaaDoor

/- The document's reader, in whatever state: it reads as the plain one. -/
namespace Go.Proofs.YtpjmieiajhhbaaaDoor
open Go.RowKit
set_option linter.unusedVariables false
set_option linter.unusedSimpArgs false

def numS (most code : Int) (s : List Int × Int) : Int × (List Int × Int) :=
  if s.2 = 0 then (match numG most code s.1 with
    | .ok (n, r) => (n, (r, 0))
    | .error y => (0, (s.1, y))) else (0, s)
def txtS (s : List Int × Int) : List Int × (List Int × Int) :=
  if s.2 = 0 then (match numG 256 5 s.1 with
    | .error y => ([], (s.1, y))
    | .ok (n, r) => if (r.length : Int) < n then ([], (r, 8)) else (r.take n.toNat, (r.drop n.toNat, 0))) else ([], s)
theorem numS_stay {most code : Int} {s : List Int × Int} (h : s.2 ≠ 0) : numS most code s = (0, s) := by unfold numS; rw [if_neg h]
theorem txtS_stay {s : List Int × Int} (h : s.2 ≠ 0) : txtS s = ([], s) := by unfold txtS; rw [if_neg h]
theorem numS_ok {most code : Int} {l : List Int} {n : Int} {r : List Int} (h : numG most code l = .ok (n, r)) : numS most code (l, 0) = (n, (r, 0)) := by
  unfold numS
  simp only [if_true, h]
/-! ### what Decode says -/
def s1 (X : List Int) : Int × (List Int × Int) := numS 1099511627776 4 (X, 0)
def s2 (X : List Int) : Int × (List Int × Int) := numS 1099511627776 4 (s1 X).2
def s3 (X : List Int) : Int × (List Int × Int) := numS 1099511627776 4 (s2 X).2
def s4 (X : List Int) : Int × (List Int × Int) := numS 1099511627776 4 (s3 X).2
def s5 (X : List Int) : Int × (List Int × Int) := numS 1099511627776 4 (s4 X).2
def s6 (X : List Int) : Int × (List Int × Int) := numS 1099511627776 4 (s5 X).2
def s7 (X : List Int) : Int × (List Int × Int) := numS 1099511627776 4 (s6 X).2
def s8 (X : List Int) : List Int × (List Int × Int) := txtS (s7 X).2
def s9 (X : List Int) : List Int × (List Int × Int) := txtS (s8 X).2
def s10 (X : List Int) : List Int × (List Int × Int) := txtS (s9 X).2
def readJ (X : List Int) : Jb := ⟨(s1 X).1, (s8 X).1, (s9 X).1, (s10 X).1, (s2 X).1, (s3 X).1, (s4 X).1, (s5 X).1, (s6 X).1, (s7 X).1⟩
def decP (X : List Int) : Jb × Int := if (s10 X).2.2 ≠ 0 then (jb0, (s10 X).2.2) else if (s10 X).2.1 ≠ [] then (jb0, 23) else if chkJ (readJ X) ≠ 0 then (jb0, 9) else (readJ X, 0)
end Go.Proofs.YtpjmieiajhhbaaaDoor

/- A job comes back from its octets; what is read is built again. -/
namespace Go.Proofs.YtpjmieiajhhbaaaDoor
open Go.RowKit
set_option linter.unusedVariables false
set_option linter.unusedSimpArgs false

theorem numG_back (most code n : Int) (h0 : 0 ≤ n) (h1 : n ≤ most) (hm : most ≤ 1099511627776) (r : List Int) : numG most code (octets n ++ r) = .ok (n, r) := by
  unfold numG
  rw [getOf_octets n h0 (by omega)]
  simp only [if_true]
  rw [if_neg (by omega), Int.toNat_natCast, List.drop_left]
theorem numS_back (n : Int) (h0 : 0 ≤ n) (h1 : n ≤ 1099511627776) (r : List Int) : numS 1099511627776 4 (octets n ++ r, 0) = (n, (r, 0)) :=
  numS_ok (numG_back _ _ n h0 h1 (Int.le_refl _) r)
theorem txtS_back (t : List Int) (ht : t.length ≤ 256) (r : List Int) : txtS (textO t ++ r, 0) = (t, (r, 0)) := by
  unfold txtS textO
  rw [List.append_assoc]
  simp only [if_true]
  rw [numG_back 256 5 (t.length : Int) (by omega) (by omega) (by omega)]
  simp only [Int.toNat_natCast]
  rw [if_neg (by rw [List.length_append]; omega), List.take_left, List.drop_left]
theorem encJ_form (j : Jb) : encJ j = octets j.id ++ (octets j.st ++ (octets j.du ++ (octets j.tr ++ (octets j.wk ++ (octets j.tk ++ (octets j.un ++ (textO j.na ++ (textO j.ru ++ (textO j.pa ++ []))))))))) := by
  simp [encJ, catO, catT, numsJ, textsJ]
theorem back_dec {j : Jb} (h : chkJ j = 0) : decP (encJ j) = (j, 0) := by
  have H := nums_in h
  simp only [numsJ, List.mem_cons, List.not_mem_nil, or_false, forall_eq_or_imp, forall_eq] at H
  obtain ⟨h1, h2, h3, h4, h5, h6, h7⟩ := H
  have T := texts_in h
  simp only [textsJ, List.mem_cons, List.not_mem_nil, or_false, forall_eq_or_imp, forall_eq] at T
  obtain ⟨t1, t2, t3⟩ := T
  have E := encJ_form j
  generalize encJ j = X at E
  have e1 : s1 X = (j.id, (octets j.st ++ (octets j.du ++ (octets j.tr ++ (octets j.wk ++ (octets j.tk ++ (octets j.un ++ (textO j.na ++ (textO j.ru ++ (textO j.pa ++ [])))))))), 0)) := by unfold s1; rw [E]; exact numS_back _ h1.1 h1.2 _
  have e2 : s2 X = (j.st, (octets j.du ++ (octets j.tr ++ (octets j.wk ++ (octets j.tk ++ (octets j.un ++ (textO j.na ++ (textO j.ru ++ (textO j.pa ++ []))))))), 0)) := by unfold s2; rw [e1]; exact numS_back _ h2.1 h2.2 _
  have e3 : s3 X = (j.du, (octets j.tr ++ (octets j.wk ++ (octets j.tk ++ (octets j.un ++ (textO j.na ++ (textO j.ru ++ (textO j.pa ++ [])))))), 0)) := by unfold s3; rw [e2]; exact numS_back _ h3.1 h3.2 _
  have e4 : s4 X = (j.tr, (octets j.wk ++ (octets j.tk ++ (octets j.un ++ (textO j.na ++ (textO j.ru ++ (textO j.pa ++ []))))), 0)) := by unfold s4; rw [e3]; exact numS_back _ h4.1 h4.2 _
  have e5 : s5 X = (j.wk, (octets j.tk ++ (octets j.un ++ (textO j.na ++ (textO j.ru ++ (textO j.pa ++ [])))), 0)) := by unfold s5; rw [e4]; exact numS_back _ h5.1 h5.2 _
  have e6 : s6 X = (j.tk, (octets j.un ++ (textO j.na ++ (textO j.ru ++ (textO j.pa ++ []))), 0)) := by unfold s6; rw [e5]; exact numS_back _ h6.1 h6.2 _
  have e7 : s7 X = (j.un, (textO j.na ++ (textO j.ru ++ (textO j.pa ++ [])), 0)) := by unfold s7; rw [e6]; exact numS_back _ h7.1 h7.2 _
  have e8 : s8 X = (j.na, (textO j.ru ++ (textO j.pa ++ []), 0)) := by unfold s8; rw [e7]; exact txtS_back _ (by omega) _
  have e9 : s9 X = (j.ru, (textO j.pa ++ [], 0)) := by unfold s9; rw [e8]; exact txtS_back _ (by omega) _
  have e10 : s10 X = (j.pa, ([], 0)) := by unfold s10; rw [e9]; exact txtS_back _ (by omega) _
  have R : readJ X = j := by unfold readJ; rw [e1, e2, e3, e4, e5, e6, e7, e8, e9, e10]
  unfold decP
  rw [e10, R]
  simp [h]

/-! ### how long -/
theorem octets_two (n : Int) (h0 : 0 ≤ n) (h1 : n ≤ 16383) : (octets n).length ≤ 2 := by
  have hc := size_cases n h0 (by omega)
  have F := octets_form n h0 (by omega)
  have hs : sizeOf n ≤ 2 := by
    rcases hc with ⟨hs, ha, hb⟩ | ⟨hs, ha, hb⟩ | ⟨hs, ha, hb⟩ | ⟨hs, ha, hb⟩ | ⟨hs, ha, hb⟩ | ⟨hs, ha, hb⟩ | ⟨hs, ha, hb⟩ | ⟨hs, ha, hb⟩ | ⟨hs, ha, hb⟩ <;> omega
  have := F.size
  omega
theorem encJ_len {j : Jb} (h : chkJ j = 0) : (encJ j).length ≤ 512 := by
  have H := nums_in h
  have HO := (catO_len (numsJ j) H).1
  have T := texts_in h
  have hn := (jb_in h).na
  simp only [textsJ, List.mem_cons, List.not_mem_nil, or_false, forall_eq_or_imp, forall_eq] at T
  obtain ⟨t1, t2, t3⟩ := T
  have o1 := octets_two (j.na.length : Int) (by omega) (by omega)
  have o2 := octets_two (j.ru.length : Int) (by omega) (by omega)
  have o3 := octets_two (j.pa.length : Int) (by omega) (by omega)
  have hl : (numsJ j).length = 7 := rfl
  unfold encJ catT textsJ
  simp only [List.map_cons, List.map_nil, List.flatten_cons, List.flatten_nil, List.length_append, List.length_nil, textO]
  omega

/-! ### what is read is built again -/
def OctA (l : List Int) : Prop := ∀ y ∈ l, 0 ≤ y ∧ y ≤ 255
theorem OctA.tail {l p r : List Int} (h : OctA l) (e : l = p ++ r) : OctA r := fun y hy => h y (by rw [e]; exact List.mem_append_right _ hy)
theorem numG_again {most code : Int} {l : List Int} (hx : OctA l) {n : Int} {r : List Int} (h : numG most code l = .ok (n, r)) : 0 ≤ n ∧ n ≤ most ∧ l = octets n ++ r := by
  unfold numG at h
  split at h
  · rename_i h0
    split at h
    · cases h
    · rename_i hn
      rcases get_says l hx with hg | hg | ⟨m, j, hg, n0, n1, j1, jl, ho, j9⟩
      · rw [getRet_inj hg] at h0; cases h0
      · rw [getRet_inj hg] at h0; cases h0
      · rw [getRet_inj hg] at h hn
        simp only [Int.toNat_natCast, Except.ok.injEq, Prod.mk.injEq] at h hn
        obtain ⟨rfl, rfl⟩ := h
        refine ⟨n0, by omega, ?_⟩
        rw [ho, List.take_append_drop]
  · cases h
/-- A step that ends well began well, and read what it tells. -/
theorem numS_again {s : List Int × Int} (hx : OctA s.1) (h : (numS 1099511627776 4 s).2.2 = 0) : s.2 = 0 ∧ s.1 = octets (numS 1099511627776 4 s).1 ++ (numS 1099511627776 4 s).2.1 := by
  by_cases hz : s.2 = 0
  · refine ⟨hz, ?_⟩
    cases e : numG 1099511627776 4 s.1 with
    | error y =>
      unfold numS at h
      simp only [hz, if_true, e] at h
      exact absurd h (numG_err (by decide) e)
    | ok v =>
      obtain ⟨n, r⟩ := v
      unfold numS
      simp only [hz, if_true, e]
      exact (numG_again hx e).2.2
  · rw [numS_stay hz] at h
    exact absurd h hz
theorem txtS_again {s : List Int × Int} (hx : OctA s.1) (h : (txtS s).2.2 = 0) : s.2 = 0 ∧ s.1 = textO (txtS s).1 ++ (txtS s).2.1 := by
  by_cases hz : s.2 = 0
  · refine ⟨hz, ?_⟩
    cases e : numG 256 5 s.1 with
    | error y =>
      unfold txtS at h
      simp only [hz, if_true, e] at h
      exact absurd h (numG_err (by decide) e)
    | ok v =>
      obtain ⟨n, r⟩ := v
      obtain ⟨n0, n1, hl⟩ := numG_again hx e
      unfold txtS at h ⊢
      simp only [hz, if_true, e] at h ⊢
      by_cases hr : (r.length : Int) < n
      · rw [if_pos hr] at h
        exact absurd (show (8 : Int) = 0 from h) (by decide)
      · rw [if_neg hr]
        show s.1 = textO (r.take n.toNat) ++ r.drop n.toNat
        unfold textO
        rw [List.length_take, Nat.min_eq_left (by omega), Int.toNat_of_nonneg n0, List.append_assoc, List.take_append_drop]
        exact hl
  · rw [txtS_stay hz] at h
    exact absurd h hz
theorem dec_back {X : List Int} (hx : OctA X) (h : (decP X).2 = 0) : chkJ (decP X).1 = 0 ∧ encJ (decP X).1 = X := by
  unfold decP at h ⊢
  by_cases c1 : (s10 X).2.2 ≠ 0
  · rw [if_pos c1] at h; exact absurd h c1
  rw [if_neg c1] at h ⊢
  by_cases c2 : (s10 X).2.1 ≠ []
  · rw [if_pos c2] at h; cases h
  rw [if_neg c2] at h ⊢
  by_cases c3 : chkJ (readJ X) ≠ 0
  · rw [if_pos c3] at h; cases h
  rw [if_neg c3]
  refine ⟨Classical.not_not.1 c3, ?_⟩
  have z : (s10 X).2.2 = 0 := Classical.not_not.1 c1
  have y : (s10 X).2.1 = [] := Classical.not_not.1 c2
  clear c1 c2 c3 h
  -- downwards: each step began well
  have q10 : (s9 X).2.2 = 0 := by
    by_cases hz : (s9 X).2.2 = 0
    · exact hz
    · unfold s10 at z; rw [txtS_stay hz] at z; exact absurd z hz
  have q9 : (s8 X).2.2 = 0 := by
    by_cases hz : (s8 X).2.2 = 0
    · exact hz
    · unfold s9 at q10; rw [txtS_stay hz] at q10; exact absurd q10 hz
  have q8 : (s7 X).2.2 = 0 := by
    by_cases hz : (s7 X).2.2 = 0
    · exact hz
    · unfold s8 at q9; rw [txtS_stay hz] at q9; exact absurd q9 hz
  have q7 : (s6 X).2.2 = 0 := by
    by_cases hz : (s6 X).2.2 = 0
    · exact hz
    · unfold s7 at q8; rw [numS_stay hz] at q8; exact absurd q8 hz
  have q6 : (s5 X).2.2 = 0 := by
    by_cases hz : (s5 X).2.2 = 0
    · exact hz
    · unfold s6 at q7; rw [numS_stay hz] at q7; exact absurd q7 hz
  have q5 : (s4 X).2.2 = 0 := by
    by_cases hz : (s4 X).2.2 = 0
    · exact hz
    · unfold s5 at q6; rw [numS_stay hz] at q6; exact absurd q6 hz
  have q4 : (s3 X).2.2 = 0 := by
    by_cases hz : (s3 X).2.2 = 0
    · exact hz
    · unfold s4 at q5; rw [numS_stay hz] at q5; exact absurd q5 hz
  have q3 : (s2 X).2.2 = 0 := by
    by_cases hz : (s2 X).2.2 = 0
    · exact hz
    · unfold s3 at q4; rw [numS_stay hz] at q4; exact absurd q4 hz
  have q2 : (s1 X).2.2 = 0 := by
    by_cases hz : (s1 X).2.2 = 0
    · exact hz
    · unfold s2 at q3; rw [numS_stay hz] at q3; exact absurd q3 hz
  -- upwards: what each read
  have a1 : X = octets (s1 X).1 ++ (s1 X).2.1 := (numS_again (s := (X, 0)) hx q2).2
  have o1 : OctA (s1 X).2.1 := hx.tail a1
  have a2 : (s1 X).2.1 = octets (s2 X).1 ++ (s2 X).2.1 := (numS_again (s := (s1 X).2) o1 q3).2
  have o2 := o1.tail a2
  have a3 : (s2 X).2.1 = octets (s3 X).1 ++ (s3 X).2.1 := (numS_again (s := (s2 X).2) o2 q4).2
  have o3 := o2.tail a3
  have a4 : (s3 X).2.1 = octets (s4 X).1 ++ (s4 X).2.1 := (numS_again (s := (s3 X).2) o3 q5).2
  have o4 := o3.tail a4
  have a5 : (s4 X).2.1 = octets (s5 X).1 ++ (s5 X).2.1 := (numS_again (s := (s4 X).2) o4 q6).2
  have o5 := o4.tail a5
  have a6 : (s5 X).2.1 = octets (s6 X).1 ++ (s6 X).2.1 := (numS_again (s := (s5 X).2) o5 q7).2
  have o6 := o5.tail a6
  have a7 : (s6 X).2.1 = octets (s7 X).1 ++ (s7 X).2.1 := (numS_again (s := (s6 X).2) o6 q8).2
  have o7 := o6.tail a7
  have a8 : (s7 X).2.1 = textO (s8 X).1 ++ (s8 X).2.1 := (txtS_again (s := (s7 X).2) o7 q9).2
  have o8 := o7.tail a8
  have a9 : (s8 X).2.1 = textO (s9 X).1 ++ (s9 X).2.1 := (txtS_again (s := (s8 X).2) o8 q10).2
  have o9 := o8.tail a9
  have a10 : (s9 X).2.1 = textO (s10 X).1 ++ (s10 X).2.1 := (txtS_again (s := (s9 X).2) o9 z).2
  rw [encJ_form]
  show octets (s1 X).1 ++ (octets (s2 X).1 ++ (octets (s3 X).1 ++ (octets (s4 X).1 ++ (octets (s5 X).1 ++ (octets (s6 X).1 ++ (octets (s7 X).1 ++ (textO (s8 X).1 ++ (textO (s9 X).1 ++ (textO (s10 X).1 ++ []))))))))) = X
  rw [y] at a10
  rw [← a10, ← a9, ← a8, ← a7, ← a6, ← a5, ← a4, ← a3, ← a2, ← a1]
/-- What is read is nothing beside an error. -/
theorem dec_none {X : List Int} (h : (decP X).2 ≠ 0) : (decP X).1 = jb0 := by
  unfold decP at h ⊢
  repeat' split
  all_goals first | rfl | (exfalso; simp_all)
end Go.Proofs.YtpjmieiajhhbaaaDoor
