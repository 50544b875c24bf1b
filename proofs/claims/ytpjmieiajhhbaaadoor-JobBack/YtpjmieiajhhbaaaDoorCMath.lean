/- The calendar, plainly: years, months, dates, a second's text; a date is told by one day alone; an earlier second's text comes first. -/
import Derived.Test.YtpjmieiajhhbaaaDoorGA
namespace Go.Proofs.YtpjmieiajhhbaaaDoor
set_option linter.unusedVariables false

def leapP (y : Int) : Bool := (y % 4 == 0 && y % 100 != 0) || y % 400 == 0
def lenY (y : Int) : Int := if leapP y then 366 else 365
def ltoP (y : Int) : Int := y / 4 - y / 100 + y / 400
def bgn (y : Int) : Int := 365 * (y - 1970) + ltoP (y - 1) - ltoP 1969

theorem leap_iff (y : Int) : leapP y = true ↔ (y % 4 = 0 ∧ y % 100 ≠ 0) ∨ y % 400 = 0 := by
  simp [leapP]

theorem bgn_next (y : Int) : bgn (y + 1) = bgn y + lenY y := by
  by_cases h : leapP y = true
  · have h2 := (leap_iff y).mp h
    simp only [bgn, lenY, ltoP, h, if_true]
    omega
  · have h2 : ¬ _ := fun x => h ((leap_iff y).mpr x)
    simp only [bgn, lenY, ltoP, h, if_false, Bool.false_eq_true]
    omega

theorem lenY_pos (y : Int) : 365 ≤ lenY y ∧ lenY y ≤ 366 := by
  unfold lenY; split <;> omega

theorem bgn_first : bgn 1970 = 0 := by decide
theorem bgn_last : bgn 3000 = 376200 := by decide

theorem bgn_add (y : Int) (n : Nat) : bgn y + 365 * n ≤ bgn (y + n) ∧ bgn (y + n) ≤ bgn y + 366 * n := by
  induction n with
  | zero => simp
  | succ n ih =>
    have e : y + ((n + 1 : Nat) : Int) = (y + n) + 1 := by omega
    rw [e, bgn_next]
    have := lenY_pos (y + n)
    omega

theorem bgn_mono {y z : Int} (h : y < z) : bgn y + lenY y ≤ bgn z := by
  rw [← bgn_next]
  have := bgn_add (y + 1) (z - (y + 1)).toNat
  have e : y + 1 + (((z - (y + 1)).toNat : Nat) : Int) = z := by omega
  rw [e] at this
  omega

def lenM (y m : Int) : Int := if m = 2 then (if leapP y then 29 else 28) else if m = 4 ∨ m = 6 ∨ m = 9 ∨ m = 11 then 30 else 31

theorem lenM_pos (y m : Int) : 28 ≤ lenM y m ∧ lenM y m ≤ 31 := by
  unfold lenM; split
  · split <;> omega
  · split <;> omega

def cumM (y : Int) : Nat → Int
  | 0 => 0
  | k + 1 => cumM y k + lenM y ((k + 1 : Nat) : Int)

theorem cum_all (y : Int) : cumM y 12 = lenY y := by
  by_cases h : leapP y = true <;> simp [cumM, lenM, lenY, h]

theorem cum_mono (y : Int) {a b : Nat} (h : a < b) : cumM y a + lenM y ((a + 1 : Nat) : Int) ≤ cumM y b := by
  induction b with
  | zero => omega
  | succ b ih =>
    by_cases e : a = b
    · subst e; simp [cumM]
    · have := ih (by omega)
      have := lenM_pos y ((b + 1 : Nat) : Int)
      simp only [cumM]; omega

def dayP (y m d : Int) : Int := bgn y + cumM y (m - 1).toNat + d - 1

structure IsDate (day y m d : Int) : Prop where
  y0 : 1970 ≤ y
  y1 : y ≤ 2999
  m0 : 1 ≤ m
  m1 : m ≤ 12
  d0 : 1 ≤ d
  d1 : d ≤ lenM y m
  at_ : dayP y m d = day

theorem IsDate.cum {day y m d : Int} (h : IsDate day y m d) : 0 ≤ cumM y (m - 1).toNat ∧ cumM y (m - 1).toNat + d ≤ lenY y := by
  obtain ⟨y0, y1, m0, m1, d0, d1, at_⟩ := h
  have h1 : 0 ≤ cumM y (m - 1).toNat := by
    by_cases e : (m - 1).toNat = 0
    · rw [e]; simp [cumM]
    · have := cum_mono y (a := 0) (b := (m - 1).toNat) (by omega)
      have := lenM_pos y ((0 + 1 : Nat) : Int)
      simp only [cumM] at *; omega
  have h2 := cum_mono y (a := (m - 1).toNat) (b := 12) (by omega)
  have e : (((m - 1).toNat + 1 : Nat) : Int) = m := by omega
  rw [cum_all, e] at h2
  exact ⟨h1, by omega⟩

theorem IsDate.inside {day y m d : Int} (h : IsDate day y m d) : bgn y ≤ day ∧ day < bgn y + lenY y := by
  have := h.cum
  have a := h.at_
  have := h.d0
  unfold dayP at a
  omega

theorem IsDate.bounds {day y m d : Int} (h : IsDate day y m d) : 0 ≤ day ∧ day < 376200 := by
  have i := h.inside
  have l := bgn_mono (y := y) (z := 3000) (by have := h.y1; omega)
  rw [bgn_last] at l
  have := h.y0
  have l1 := bgn_first
  have l2 := lenY_pos 1970
  by_cases e : y = 1970
  · subst e; omega
  · have := bgn_mono (y := 1970) (z := y) (by omega)
    omega

theorem date_less {a b y m d y' m' d' : Int} (h : IsDate a y m d) (h' : IsDate b y' m' d') :
    a < b ↔ y < y' ∨ (y = y' ∧ (m < m' ∨ (m = m' ∧ d < d'))) := by
  have key : ∀ {a b y m d y' m' d' : Int}, IsDate a y m d → IsDate b y' m' d' →
      (y < y' ∨ (y = y' ∧ (m < m' ∨ (m = m' ∧ d < d')))) → a < b := by
    intro a b y m d y' m' d' h h' c
    rcases c with c | ⟨rfl, c⟩
    · have := bgn_mono c
      have := h.inside
      have := h'.inside
      omega
    · have e := h.at_
      have e' := h'.at_
      rcases c with c | ⟨rfl, c⟩
      · have := cum_mono y (a := (m - 1).toNat) (b := (m' - 1).toNat) (by have := h.m0; omega)
        have e2 : (((m - 1).toNat + 1 : Nat) : Int) = m := by have := h.m0; omega
        rw [e2] at this
        have := h.d1
        have := h'.d0
        unfold dayP at e e'
        omega
      · unfold dayP at e e'
        omega
  constructor
  · intro lt
    have n : ¬ (y' < y ∨ (y' = y ∧ (m' < m ∨ (m' = m ∧ d' < d)))) := fun c => by
      have := key h' h c; omega
    by_cases e : y = y' ∧ m = m' ∧ d = d'
    · obtain ⟨rfl, rfl, rfl⟩ := e
      have := h.at_; have := h'.at_; omega
    · omega
  · exact key h h'

theorem date_one {a y m d y' m' d' : Int} (h : IsDate a y m d) (h' : IsDate a y' m' d') : y = y' ∧ m = m' ∧ d = d' := by
  have h1 : ¬ (y < y' ∨ (y = y' ∧ (m < m' ∨ (m = m' ∧ d < d')))) := fun c => absurd ((date_less h h').mpr c) (by omega)
  have h2 : ¬ (y' < y ∨ (y' = y ∧ (m' < m ∨ (m' = m ∧ d' < d)))) := fun c => absurd ((date_less h' h).mpr c) (by omega)
  omega

def yearF : Nat → Int → Int → Int
  | 0, y, _ => y
  | n + 1, y, day => if bgn (y + 1) ≤ day then yearF n (y + 1) day else y

theorem yearF_is (n : Nat) (y day : Int) (h0 : bgn y ≤ day) (h1 : day < bgn (y + n)) :
    bgn (yearF n y day) ≤ day ∧ day < bgn (yearF n y day + 1) ∧ y ≤ yearF n y day ∧ yearF n y day < y + n := by
  induction n generalizing y with
  | zero => simp at h1; omega
  | succ n ih =>
    simp only [yearF]
    split
    · rename_i c
      have e : y + ((n + 1 : Nat) : Int) = y + 1 + n := by omega
      rw [e] at h1
      have := ih (y + 1) c h1
      refine ⟨this.1, this.2.1, by omega, by omega⟩
    · refine ⟨h0, by omega, by omega, by omega⟩

def dateY (day : Int) : Int := yearF 1030 1970 day

def monF (y : Int) : Nat → Int → Int → Int × Int
  | 0, m, r => (m, r)
  | n + 1, m, r => if lenM y m ≤ r then monF y n (m + 1) (r - lenM y m) else (m, r)

theorem monF_is (y : Int) (n : Nat) (m r : Int) (m0 : 1 ≤ m) (mn : m + n = 13) (r0 : 0 ≤ r) (h1 : r < lenY y - cumM y (m - 1).toNat) :
    1 ≤ (monF y n m r).1 ∧ (monF y n m r).1 ≤ 12 ∧ 0 ≤ (monF y n m r).2 ∧ (monF y n m r).2 < lenM y (monF y n m r).1 ∧
      cumM y ((monF y n m r).1 - 1).toNat + (monF y n m r).2 = cumM y (m - 1).toNat + r := by
  induction n generalizing m r with
  | zero =>
    have : m = 13 := by omega
    subst this
    have e : ((13 : Int) - 1).toNat = 12 := rfl
    rw [e, cum_all] at h1
    omega
  | succ n ih =>
    have k : cumM y (m + 1 - 1).toNat = cumM y (m - 1).toNat + lenM y m := by
      have e : (m + 1 - 1).toNat = (m - 1).toNat + 1 := by omega
      have e2 : (((m - 1).toNat + 1 : Nat) : Int) = m := by omega
      rw [e]; simp only [cumM, e2]
    simp only [monF]
    split
    · rename_i c
      have := ih (m + 1) (r - lenM y m) (by omega) (by omega) (by omega) (by omega)
      refine ⟨this.1, this.2.1, this.2.2.1, this.2.2.2.1, ?_⟩
      have := this.2.2.2.2
      omega
    · rename_i c
      refine ⟨m0, by omega, r0, by simpa using c, rfl⟩

def dateM (day : Int) : Int := (monF (dateY day) 12 1 (day - bgn (dateY day))).1
def dateD (day : Int) : Int := (monF (dateY day) 12 1 (day - bgn (dateY day))).2 + 1

theorem date_is {day : Int} (h0 : 0 ≤ day) (h1 : day < 376200) : IsDate day (dateY day) (dateM day) (dateD day) := by
  have a := yearF_is 1030 1970 day (by rw [bgn_first]; exact h0) (by
    have e : (1970 : Int) + ((1030 : Nat) : Int) = 3000 := rfl
    rw [e, bgn_last]; exact h1)
  change bgn (dateY day) ≤ day ∧ day < bgn (dateY day + 1) ∧ 1970 ≤ dateY day ∧ dateY day < _ at a
  rw [bgn_next] at a
  have c0 : cumM (dateY day) ((1 : Int) - 1).toNat = 0 := rfl
  have b := monF_is (dateY day) 12 1 (day - bgn (dateY day)) (by omega) (by omega) (by omega) (by rw [c0]; omega)
  rw [c0] at b
  refine ⟨by omega, by omega, b.1, b.2.1, by unfold dateD; omega, by unfold dateD; exact (by have := b.2.2.2.1; unfold dateM; omega), ?_⟩
  have := b.2.2.2.2
  unfold dayP dateD dateM
  omega

theorem date_eq {day y m d : Int} (h : IsDate day y m d) : y = dateY day ∧ m = dateM day ∧ d = dateD day :=
  date_one h (date_is h.bounds.1 h.bounds.2)
/-- Two digits. -/
def dig2 (n : Int) : List Int := [48 + n / 10, 48 + n % 10]
def dig4 (n : Int) : List Int := [48 + n / 1000, 48 + n / 100 % 10, 48 + n / 10 % 10, 48 + n % 10]
theorem less_cons (c : Int) (l m : List Int) : lessL (c :: l) (c :: m) = lessL l m := by simp [lessL]
theorem less_two (a b : Int) (l m : List Int) (a0 : 0 ≤ a) (a1 : a < 100) (b0 : 0 ≤ b) (b1 : b < 100) :
    lessL (dig2 a ++ l) (dig2 b ++ m) = true ↔ a < b ∨ (a = b ∧ lessL l m = true) := by
  simp only [dig2, List.cons_append, List.nil_append, lessL, Bool.or_eq_true, Bool.and_eq_true, decide_eq_true_eq]
  generalize lessL l m = z
  cases z
  · simp only [Bool.false_eq_true, and_false, or_false]; omega
  · simp only [and_true]; omega
theorem less_four (a b : Int) (l m : List Int) (a0 : 0 ≤ a) (a1 : a < 10000) (b0 : 0 ≤ b) (b1 : b < 10000) :
    lessL (dig4 a ++ l) (dig4 b ++ m) = true ↔ a < b ∨ (a = b ∧ lessL l m = true) := by
  simp only [dig4, List.cons_append, List.nil_append, lessL, Bool.or_eq_true, Bool.and_eq_true, decide_eq_true_eq]
  generalize lessL l m = z
  cases z
  · simp only [Bool.false_eq_true, and_false, or_false]; omega
  · simp only [and_true]; omega
theorem two_inj {a b : Int} {l m : List Int} (a0 : 0 ≤ a) (a1 : a < 100) (b0 : 0 ≤ b) (b1 : b < 100) (h : dig2 a ++ l = dig2 b ++ m) : a = b ∧ l = m := by
  simp only [dig2, List.cons_append, List.nil_append, List.cons.injEq] at h
  exact ⟨by omega, h.2.2⟩
theorem four_inj {a b : Int} {l m : List Int} (a0 : 0 ≤ a) (a1 : a < 10000) (b0 : 0 ≤ b) (b1 : b < 10000) (h : dig4 a ++ l = dig4 b ++ m) : a = b ∧ l = m := by
  simp only [dig4, List.cons_append, List.nil_append, List.cons.injEq] at h
  exact ⟨by omega, h.2.2.2.2⟩
/-- A second's text. -/
def txt (y m d h mi s : Int) : List Int := dig4 y ++ (45 :: (dig2 m ++ (45 :: (dig2 d ++ (32 :: (dig2 h ++ (58 :: (dig2 mi ++ (58 :: (dig2 s ++ []))))))))))
def hourT (t : Int) : Int := t / 3600 % 24
def minT (t : Int) : Int := t / 60 % 60
def secT (t : Int) : Int := t % 60
def txtT (t : Int) : List Int := txt (dateY (t / 86400)) (dateM (t / 86400)) (dateD (t / 86400)) (hourT t) (minT t) (secT t)
theorem txt_length (y m d h mi s : Int) : (txt y m d h mi s).length = 19 := by simp [txt, dig4, dig2]

theorem txt_less {a b : Int} (a0 : 0 ≤ a) (a1 : a < 32503680000) (b0 : 0 ≤ b) (b1 : b < 32503680000) : lessL (txtT a) (txtT b) = decide (a < b) := by
  have ia := date_is (day := a / 86400) (by omega) (by omega)
  have ib := date_is (day := b / 86400) (by omega) (by omega)
  have lt := date_less ia ib
  have la := lenM_pos (dateY (a / 86400)) (dateM (a / 86400))
  have lb := lenM_pos (dateY (b / 86400)) (dateM (b / 86400))
  obtain ⟨p1, p2, p3, p4, p5, p6, _⟩ := ia
  obtain ⟨q1, q2, q3, q4, q5, q6, _⟩ := ib
  rw [Bool.eq_iff_iff, decide_eq_true_eq]
  unfold txtT txt
  have ha : 0 ≤ hourT a ∧ hourT a < 24 ∧ 0 ≤ minT a ∧ minT a < 60 ∧ 0 ≤ secT a ∧ secT a < 60 := by unfold hourT minT secT; omega
  have hb : 0 ≤ hourT b ∧ hourT b < 24 ∧ 0 ≤ minT b ∧ minT b < 60 ∧ 0 ≤ secT b ∧ secT b < 60 := by unfold hourT minT secT; omega
  have sa : a = a / 86400 * 86400 + hourT a * 3600 + minT a * 60 + secT a := by unfold hourT minT secT; omega
  have sb : b = b / 86400 * 86400 + hourT b * 3600 + minT b * 60 + secT b := by unfold hourT minT secT; omega
  have lt' := date_less (date_is (day := b / 86400) (by omega) (by omega)) (date_is (day := a / 86400) (by omega) (by omega))
  generalize dateY (a / 86400) = ya at *
  generalize dateM (a / 86400) = ma at *
  generalize dateD (a / 86400) = da at *
  generalize dateY (b / 86400) = yb at *
  generalize dateM (b / 86400) = mb at *
  generalize dateD (b / 86400) = db at *
  generalize hourT a = ha1 at *
  generalize minT a = ha2 at *
  generalize secT a = ha3 at *
  generalize hourT b = hb1 at *
  generalize minT b = hb2 at *
  generalize secT b = hb3 at *
  generalize a / 86400 = na at *
  generalize b / 86400 = nb at *
  rw [less_four _ _ _ _ (by omega) (by omega) (by omega) (by omega), less_cons, less_two _ _ _ _ (by omega) (by omega) (by omega) (by omega), less_cons,
    less_two _ _ _ _ (by omega) (by omega) (by omega) (by omega), less_cons, less_two _ _ _ _ (by omega) (by omega) (by omega) (by omega), less_cons,
    less_two _ _ _ _ (by omega) (by omega) (by omega) (by omega), less_cons, less_two _ _ _ _ (by omega) (by omega) (by omega) (by omega)]
  simp only [lessL, Bool.false_eq_true, and_false, or_false]
  have e : na = nb ↔ (ya = yb ∧ ma = mb ∧ da = db) := by
    constructor
    · intro e; omega
    · intro e; omega
  constructor
  · intro h
    by_cases c : na < nb
    · omega
    · have : ¬ (ya < yb ∨ ya = yb ∧ (ma < mb ∨ ma = mb ∧ da < db)) := fun x => c (lt.mpr x)
      have : na = nb := by omega
      omega
  · intro h
    by_cases c : na < nb
    · have := lt.mp c; omega
    · have : na = nb := by omega
      have := e.mp this
      omega
theorem txt_same {a b : Int} (a0 : 0 ≤ a) (a1 : a < 32503680000) (b0 : 0 ≤ b) (b1 : b < 32503680000) : txtT a = txtT b ↔ a = b := by
  constructor
  · intro h
    have l1 := txt_less a0 a1 b0 b1
    have l2 := txt_less b0 b1 a0 a1
    have l3 := txt_less a0 a1 a0 a1
    rw [← h, l3] at l1
    rw [← h, l3] at l2
    have := decide_eq_decide.mp l1
    have := decide_eq_decide.mp l2
    omega
  · rintro rfl; rfl
theorem txt_octet (t : Int) (a0 : 0 ≤ t) (a1 : t < 32503680000) : ∀ x ∈ txtT t, 0 ≤ x ∧ x ≤ 255 := by
  have ia := date_is (day := t / 86400) (by omega) (by omega)
  have la := lenM_pos (dateY (t / 86400)) (dateM (t / 86400))
  obtain ⟨p1, p2, p3, p4, p5, p6, _⟩ := ia
  intro x hx
  simp only [txtT, txt, dig4, dig2, List.cons_append, List.nil_append, List.mem_cons, List.not_mem_nil, or_false] at hx
  unfold hourT minT secT at hx
  omega
theorem bgn_bounds {y : Int} (h0 : 1970 ≤ y) (h1 : y ≤ 3000) : 0 ≤ bgn y ∧ bgn y ≤ 376200 := by
  have l1 := bgn_first
  have l2 := bgn_last
  have l3 := lenY_pos 1970
  have l4 := lenY_pos y
  constructor
  · by_cases e : y = 1970
    · subst e; omega
    · have := bgn_mono (y := 1970) (z := y) (by omega)
      omega
  · by_cases e : y = 3000
    · subst e; omega
    · have := bgn_mono (y := y) (z := 3000) (by omega)
      omega
theorem cum_bounds (y : Int) (k : Nat) : 28 * (k : Int) ≤ cumM y k ∧ cumM y k ≤ 31 * (k : Int) := by
  induction k with
  | zero => simp [cumM]
  | succ k ih =>
    have := lenM_pos y ((k + 1 : Nat) : Int)
    simp only [cumM]
    omega
theorem cum_next (y : Int) (k : Nat) : cumM y (k + 1) = cumM y k + lenM y ((k : Int) + 1) := rfl
/-- What Days says. -/
def daysP (y m : Int) : Int × Int := if 1970 ≤ y ∧ y ≤ 2999 ∧ 1 ≤ m ∧ m ≤ 12 then (lenM y m, 0) else (0, 4)
/-- What Day says. -/
def dayQ (y m d : Int) : Int × Int := if (1970 ≤ y ∧ y ≤ 2999 ∧ 1 ≤ m ∧ m ≤ 12) ∧ 1 ≤ d ∧ d ≤ lenM y m then (dayP y m d, 0) else (0, 4)
theorem dayQ_is {y m d : Int} (h : (1970 ≤ y ∧ y ≤ 2999 ∧ 1 ≤ m ∧ m ≤ 12) ∧ 1 ≤ d ∧ d ≤ lenM y m) : IsDate (dayP y m d) y m d :=
  ⟨h.1.1, h.1.2.1, h.1.2.2.1, h.1.2.2.2, h.2.1, h.2.2, rfl⟩
theorem dayQ_of {n y m d : Int} (h : IsDate n y m d) : dayQ y m d = (n, 0) := by
  have e : dayQ y m d = (dayP y m d, 0) := if_pos ⟨⟨h.y0, h.y1, h.m0, h.m1⟩, h.d0, h.d1⟩
  rw [e, h.at_]
theorem year_less {y z : Int} (h : bgn y < bgn (z + 1)) : y ≤ z := by
  by_cases c : y ≤ z
  · exact c
  · by_cases e : y = z + 1
    · subst e; omega
    · have := bgn_mono (y := z + 1) (z := y) (by omega)
      have := lenY_pos (z + 1)
      omega
theorem year_one {n y z : Int} (h0 : bgn y ≤ n) (h1 : n < bgn (y + 1)) (k0 : bgn z ≤ n) (k1 : n < bgn (z + 1)) : y = z := by
  have := year_less (y := y) (z := z) (by omega)
  have := year_less (y := z) (z := y) (by omega)
  omega
theorem year_end {n y : Int} (h : bgn y ≤ n) (hn : n < 376200) : y ≤ 2999 := by
  have e : (2999 : Int) + 1 = 3000 := rfl
  have := bgn_last
  exact year_less (by rw [e]; omega)
theorem year_first {n : Int} (h0 : 0 ≤ n) : bgn (1970 + n / 366) ≤ n := by
  have := bgn_add 1970 (n / 366).toNat
  have e : (1970 : Int) + (((n / 366).toNat : Nat) : Int) = 1970 + n / 366 := by omega
  rw [e] at this
  have := bgn_first
  omega
/-- A walk over the months ends at a date. -/
theorem month_end {n y : Int} {k : Nat} (y0 : 1970 ≤ y) (h0 : bgn y ≤ n) (h1 : n < bgn (y + 1)) (hn : n < 376200) (hk : k ≤ 11) (c0 : cumM y k ≤ n - bgn y) (c1 : n - bgn y - cumM y k < lenM y ((k : Int) + 1)) :
    IsDate n y ((k : Int) + 1) (n - bgn y - cumM y k + 1) := by
  refine ⟨y0, year_end h0 hn, by omega, by omega, by omega, by omega, ?_⟩
  have e : ((k : Int) + 1 - 1).toNat = k := by omega
  unfold dayP
  rw [e]
  omega
theorem month_on {n y : Int} {k : Nat} (h1 : n < bgn (y + 1)) (hk : k ≤ 11) (c1 : lenM y ((k : Int) + 1) ≤ n - bgn y - cumM y k) : k < 11 := by
  by_cases e : k = 11
  · subst e
    have a := cum_all y
    have b : cumM y 12 = cumM y 11 + lenM y (((11 : Nat) : Int) + 1) := cum_next y 11
    have c := bgn_next y
    omega
  · omega
/-- What Date says. -/
def dateQ (n : Int) : Int × Int × Int × Int := if 0 ≤ n ∧ n < 376200 then (dateY n, dateM n, dateD n, 0) else (0, 0, 0, 4)
/-- What Split says: the moment's numbers, in order. -/
def momP (t : Int) : List Int × Int := if 0 ≤ t ∧ t < 32503680000 then ([dateY (t / 86400), dateM (t / 86400), dateD (t / 86400), hourT t, minT t, secT t, (t / 86400 + 4) % 7], 0) else ([0, 0, 0, 0, 0, 0, 0], 4)
theorem clock {t : Int} : t / 60 / 60 / 24 = t / 86400 ∧ t % 60 = secT t ∧ t / 60 % 60 = minT t ∧ t / 60 / 60 % 24 = hourT t := by
  unfold secT minT hourT
  omega
/-- What Join says. -/
def joinP (y m d h mi s wd : Int) : Int × Int :=
  if (dayQ y m d).2 ≠ 0 then (0, (dayQ y m d).2)
  else if ¬ ((0 ≤ h ∧ h < 24) ∧ (0 ≤ mi ∧ mi < 60) ∧ (0 ≤ s ∧ s < 60)) then (0, 4)
  else if wd ≠ ((dayQ y m d).1 + 4) % 7 then (0, 1)
  else (86400 * (dayQ y m d).1 + 3600 * h + 60 * mi + s, 0)
theorem dayQ_bounds (y m d : Int) : 0 ≤ (dayQ y m d).1 ∧ (dayQ y m d).1 < 376200 ∧ ((dayQ y m d).2 = 0 ∨ (dayQ y m d).2 = 4) := by
  by_cases h : (1970 ≤ y ∧ y ≤ 2999 ∧ 1 ≤ m ∧ m ≤ 12) ∧ 1 ≤ d ∧ d ≤ lenM y m
  · have e : dayQ y m d = (dayP y m d, 0) := if_pos h
    have b := (dayQ_is h).bounds
    rw [e]
    exact ⟨b.1, b.2, .inl rfl⟩
  · have e : dayQ y m d = (0, 4) := if_neg h
    rw [e]
    exact ⟨by decide, by decide, .inr rfl⟩
/-- P16.3, plainly. -/
theorem join_back {t : Int} (h0 : 0 ≤ t) (h1 : t < 32503680000) : joinP (dateY (t / 86400)) (dateM (t / 86400)) (dateD (t / 86400)) (hourT t) (minT t) (secT t) ((t / 86400 + 4) % 7) = (t, 0) := by
  have e := dayQ_of (date_is (day := t / 86400) (by omega) (by omega))
  unfold joinP
  rw [e]
  have hh : (0 ≤ hourT t ∧ hourT t < 24) ∧ (0 ≤ minT t ∧ minT t < 60) ∧ (0 ≤ secT t ∧ secT t < 60) := by unfold hourT minT secT; omega
  rw [if_neg (by simp), if_neg (fun c => c hh), if_neg (by simp)]
  simp only [Prod.mk.injEq, and_true]
  unfold hourT minT secT
  omega
/-- What Text says. -/
def textP (t : Int) : List Int × Int := if 0 ≤ t ∧ t < 32503680000 then (txtT t, 0) else ([], 4)
/-- The text of no second: only the marks stand in it. -/
def blankT : List Int := [48, 48, 48, 48, 45, 48, 48, 45, 48, 48, 32, 48, 48, 58, 48, 48, 58, 48, 48]
/-- P16.4, plainly: the next day's date. -/
theorem date_next {n y m d : Int} (h : IsDate n y m d) (hn : n + 1 < 376200) :
    (d < lenM y m → IsDate (n + 1) y m (d + 1)) ∧ (d = lenM y m → m < 12 → IsDate (n + 1) y (m + 1) 1) ∧ (d = lenM y m → m = 12 → IsDate (n + 1) (y + 1) 1 1) := by
  have i := h.inside
  obtain ⟨y0, y1, m0, m1, d0, d1, e⟩ := h
  unfold dayP at e
  have km : ((m - 1).toNat : Int) + 1 = m := by omega
  have ks : (m + 1 - 1).toNat = (m - 1).toNat + 1 := by omega
  have cn := cum_next y (m - 1).toNat
  rw [km] at cn
  refine ⟨fun c => ⟨y0, y1, m0, m1, by omega, by omega, ?_⟩, fun c c2 => ⟨y0, y1, by omega, by omega, by omega, by have := lenM_pos y (m + 1); omega, ?_⟩, fun c c2 => ?_⟩
  · unfold dayP; omega
  · unfold dayP; rw [ks, cn]; omega
  · have k12 : (m - 1).toNat + 1 = 12 := by omega
    rw [k12, cum_all] at cn
    have b := bgn_next y
    have l := lenM_pos (y + 1) 1
    have y2 : y + 1 ≤ 2999 := year_end (n := n + 1) (by omega) hn
    refine ⟨by omega, y2, by omega, by omega, by omega, by omega, ?_⟩
    unfold dayP
    have c0 : cumM (y + 1) ((1 : Int) - 1).toNat = 0 := rfl
    rw [c0]
    omega
theorem bgn_four (y : Int) : bgn (y + 400) = bgn y + 146097 := by
  unfold bgn ltoP
  omega
theorem leap_four (y : Int) : leapP (y + 400) = leapP y := by
  have e1 : (y + 400) % 4 = y % 4 := by omega
  have e2 : (y + 400) % 100 = y % 100 := by omega
  have e3 : (y + 400) % 400 = y % 400 := by omega
  unfold leapP
  rw [e1, e2, e3]
theorem dayQ_first {y : Int} (h0 : 1970 ≤ y) (h1 : y ≤ 2999) : dayQ y 1 1 = (bgn y, 0) := by
  have e : dayQ y 1 1 = (dayP y 1 1, 0) := if_pos ⟨⟨h0, h1, by omega, by omega⟩, by omega, by have := lenM_pos y 1; omega⟩
  rw [e]
  unfold dayP
  have c0 : cumM y ((1 : Int) - 1).toNat = 0 := rfl
  rw [c0]
  simp
end Go.Proofs.YtpjmieiajhhbaaaDoor
