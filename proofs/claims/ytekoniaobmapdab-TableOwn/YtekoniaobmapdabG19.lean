/- The texts BMk, BCode, BDec, BMath, TMath, LOrd, in this order. -/
import Derived.Test.YtekoniaobmapdabG18
import Derived.Test.YtekoniaobmapdabG09
import Derived.Test.YtekoniaobmapdabG14
import Derived.Test.YtekoniaobmapdabFMath
import Derived.Test.YtekoniaobmapdabG08

/- Make, whatever it is given: the program's and the document's. -/
namespace Go.Proofs.Ytekoniaobmapdab
open Go.RowKit
set_option linter.unusedVariables false
set_option maxRecDepth 20000

def errM (each : Int) (m : Nat) : Int := if each < 1 ∨ 16 < each then 4 else if 4096 < m then 3 else 0
def makeR (keys : List (List Int)) (each : Int) : Int × List Int := if errM each keys.length = 0 then ((kOf each.toNat : Nat), makeL keys (kOf each.toNat) (nOf keys.length each.toNat)) else (0, [])

theorem putI_len (h : Int) (n : Nat) : ∀ (i : Nat) (l : List Int), (putI h n i l).length = l.length
  | 0, l => rfl
  | i + 1, l => by rw [putI_succ, putL_len, putI_len h n i l]
theorem putI_oct (h : Int) (n : Nat) : ∀ (i : Nat) (l : List Int), OctL l → OctL (putI h n i l)
  | 0, l, hl => hl
  | i + 1, l, hl => by rw [putI_succ]; exact putL_oct (putI_oct h n i l hl) _
theorem zeros_oct (n : Nat) : OctL (List.replicate n 0) := by
  intro x hx
  simp at hx
  omega
theorem make_fold (K n : Nat) : ∀ (keys : List (List Int)) (l : List Int), OctL l → l.length = n → (keys.foldl (fun l key => putI (hashL key) n K l) l).length = n ∧ OctL (keys.foldl (fun l key => putI (hashL key) n K l) l)
  | [], l, hl, hn => ⟨hn, hl⟩
  | k :: r, l, hl, hn => make_fold K n r _ (putI_oct _ _ _ _ hl) (by rw [putI_len]; exact hn)
theorem makeL_len (keys : List (List Int)) (K n : Nat) : (makeL keys K n).length = n := (make_fold K n keys _ (zeros_oct n) (by simp)).1
theorem makeL_oct (keys : List (List Int)) (K n : Nat) : OctL (makeL keys K n) := (make_fold K n keys _ (zeros_oct n) (by simp)).2
theorem makeR_oct (keys : List (List Int)) (each : Int) : OctL (makeR keys each).2 := by
  unfold makeR
  split
  · exact makeL_oct _ _ _
  · intro x hx; cases hx

set_option maxHeartbeats 1000000 in
theorem make_any (keys : List (List Int)) (hk : KeyL keys) (each : Int) (v : Value) (w : World) (hv : TextsW w v keys) :
    Calls Try.prog 35 #[v, .int .i64 each] w fun e w' => ∃ a n c, e = .returned (.tuple #[.agg #[.int .i64 (makeR keys each).1, .slice a n c], .int .i64 (errM each keys.length)]) ∧ n = (makeR keys each).2.length ∧ OwnB w' w.heap.size (.slice a n c) (makeR keys each).2 ∧ Below w.heap.size w w' := by
  by_cases c1 : each < 1 ∨ 16 < each
  · have he : errM each keys.length = 4 := by unfold errM; rw [if_pos c1]
    have hr : makeR keys each = (0, []) := by unfold makeR; rw [if_neg (by rw [he]; decide)]
    rw [he, hr]
    obtain ⟨a, c, rfl, hc, hmx⟩ := hv.len
    clear hv he hr
    go_enter Try.func35, Try.ntmps35
    rcases c1 with c1 | c1
    · go_wp2
      refine bodyPost_ret (results_fil rfl (.inl rfl) _ _ rfl (blk_new _ _)) rfl ?_
      exact ⟨none, 0, 0, rfl, rfl, OwnB.nil _ _, up_alloc _ _⟩
    · have c0 : ¬ each < 1 := by omega
      go_wp2
      refine bodyPost_ret (results_fil rfl (.inl rfl) _ _ rfl (blk_new _ _)) rfl ?_
      exact ⟨none, 0, 0, rfl, rfl, OwnB.nil _ _, up_alloc _ _⟩
  · by_cases c2 : 4096 < keys.length
    · have he : errM each keys.length = 3 := by unfold errM; rw [if_neg c1, if_pos c2]
      have hr : makeR keys each = (0, []) := by unfold makeR; rw [if_neg (by rw [he]; decide)]
      rw [he, hr]
      obtain ⟨a, c, rfl, hc, hmx⟩ := hv.len
      clear hv he hr
      have c3 : ¬ each < 1 := by omega
      have c4 : ¬ 16 < each := by omega
      have c2' : (4096 : Int) < (keys.length : Int) := by omega
      clear c1
      go_enter Try.func35, Try.ntmps35
      go_wp2
      refine bodyPost_ret (results_fil rfl (.inl rfl) _ _ rfl (blk_new _ _)) rfl ?_
      exact ⟨none, 0, 0, rfl, rfl, OwnB.nil _ _, up_alloc _ _⟩
    · have he : errM each keys.length = 0 := by unfold errM; rw [if_neg c1, if_neg c2]
      have hr : makeR keys each = (((kOf each.toNat : Nat) : Int), makeL keys (kOf each.toNat) (nOf keys.length each.toNat)) := by unfold makeR; rw [if_pos he]
      rw [he, hr]
      obtain ⟨m, rfl⟩ : ∃ m : Nat, each = (m : Int) := ⟨each.toNat, by omega⟩
      simp only [Int.toNat_natCast]
      refine (make_good keys hk (by omega) m (by omega) (by omega) v w hv).mono ?_
      rintro e w' ⟨a, c, rfl, ho, hb⟩
      exact ⟨a, _, c, rfl, by rw [makeL_len], ho, hb⟩

set_option maxHeartbeats 1000000 in
theorem refMake_any (keys : List (List Int)) (hk : KeyL keys) (each : Int) (v : Value) (w : World) (hv : TextsW w v keys) :
    Calls Try.prog 20 #[v, .int .i64 each] w fun e w' => ∃ a n c, e = .returned (.tuple #[.agg #[.int .i64 (makeR keys each).1, .slice a n c], .int .i64 (errM each keys.length)]) ∧ n = (makeR keys each).2.length ∧ OwnB w' w.heap.size (.slice a n c) (makeR keys each).2 ∧ Below w.heap.size w w' := by
  by_cases c1 : each < 1 ∨ 16 < each
  · have he : errM each keys.length = 4 := by unfold errM; rw [if_pos c1]
    have hr : makeR keys each = (0, []) := by unfold makeR; rw [if_neg (by rw [he]; decide)]
    rw [he, hr]
    obtain ⟨a, c, rfl, hc, hmx⟩ := hv.len
    clear hv he hr
    go_enter Try.func20, Try.ntmps20
    rcases c1 with c1 | c1
    · go_wp2
      refine bodyPost_ret (results_fil rfl (.inr rfl) _ _ rfl (blk_new _ _)) rfl ?_
      exact ⟨none, 0, 0, rfl, rfl, OwnB.nil _ _, up_alloc _ _⟩
    · have c0 : ¬ each < 1 := by omega
      go_wp2
      refine bodyPost_ret (results_fil rfl (.inr rfl) _ _ rfl (blk_new _ _)) rfl ?_
      exact ⟨none, 0, 0, rfl, rfl, OwnB.nil _ _, up_alloc _ _⟩
  · by_cases c2 : 4096 < keys.length
    · have he : errM each keys.length = 3 := by unfold errM; rw [if_neg c1, if_pos c2]
      have hr : makeR keys each = (0, []) := by unfold makeR; rw [if_neg (by rw [he]; decide)]
      rw [he, hr]
      obtain ⟨a, c, rfl, hc, hmx⟩ := hv.len
      clear hv he hr
      have c3 : ¬ each < 1 := by omega
      have c4 : ¬ 16 < each := by omega
      have c2' : (4096 : Int) < (keys.length : Int) := by omega
      clear c1
      go_enter Try.func20, Try.ntmps20
      go_wp2
      refine bodyPost_ret (results_fil rfl (.inr rfl) _ _ rfl (blk_new _ _)) rfl ?_
      exact ⟨none, 0, 0, rfl, rfl, OwnB.nil _ _, up_alloc _ _⟩
    · have he : errM each keys.length = 0 := by unfold errM; rw [if_neg c1, if_neg c2]
      have hr : makeR keys each = (((kOf each.toNat : Nat) : Int), makeL keys (kOf each.toNat) (nOf keys.length each.toNat)) := by unfold makeR; rw [if_pos he]
      rw [he, hr]
      obtain ⟨m, rfl⟩ : ∃ m : Nat, each = (m : Int) := ⟨each.toNat, by omega⟩
      simp only [Int.toNat_natCast]
      refine (refMake_good keys hk (by omega) m (by omega) (by omega) v w hv).mono ?_
      rintro e w' ⟨a, c, rfl, ho, hb⟩
      exact ⟨a, _, c, rfl, by rw [makeL_len], ho, hb⟩
end Go.Proofs.Ytekoniaobmapdab

/- Encode: a filter as octets, the program's and the document's. -/
namespace Go.Proofs.Ytekoniaobmapdab
open Go.RowKit
set_option linter.unusedVariables false
set_option maxRecDepth 20000

def encL (k : Int) (l : List Int) : List Int := if mayB k l.length then k :: l else []

theorem may_le {k : Int} {n : Nat} (h : mayB k n = true) : 1 ≤ k ∧ k ≤ 8 ∧ 1 ≤ n ∧ n ≤ 8192 := by
  unfold mayB at h
  simp at h
  exact h

theorem own_one (w : World) (x : Int) {base N : Nat} (hb : base ≤ w.heap.size) (hN : w.heap.size = N) : OwnB (w.alloc (.cells #[.int .u8 x] 5)) base (.slice (some ⟨N, 0, none⟩) 1 1) [x] := by
  subst hN
  exact World.ownsRow_lit (base := base) (e := 5) (size := 1) w #[.int .u8 x] 1 hb (by unfold maxLen; omega) rfl

set_option maxHeartbeats 1000000 in
theorem encode_any (k : Int) (l : List Int) (a : Option Addr) (c : Nat) (w : World) (hv : Octs w (.slice a l.length c) l) :
    Calls Try.prog 37 #[.agg #[.int .i64 k, .slice a l.length c]] w fun e w' => ∃ a' n' c', e = .returned (.tuple #[.slice a' n' c', .int .i64 (chkE k l.length)]) ∧ n' = (encL k l).length ∧ OwnB w' w.heap.size (.slice a' n' c') (encL k l) ∧ Below w.heap.size w w' := by
  have HX : encL k l = if mayB k l.length then k :: l else [] := rfl
  have HE : chkE k l.length = if mayB k l.length then 0 else 9 := rfl
  have HM : Hid (∀ w : World, Calls Try.prog 61 #[.agg #[.int .i64 k, .slice a l.length c]] w fun e w' => e = .returned (.bool (mayB k l.length)) ∧ w' = w.alloc (.cells #[.int .i64 k, .slice a l.length c] 36)) := fun w => mayBe_any k a _ c w
  cases hmay : mayB k l.length
  · rw [hmay] at HX HE HM
    simp at HX HE
    rw [HX, HE]
    clear HX HE
    go_enter Try.func37, Try.ntmps37
    go_wp2_with fail
    refine (HM.out _).mono ?_
    rintro e w1 ⟨rfl, rfl⟩
    go_wp2
    go_ret2
    exact ⟨none, 0, 0, rfl, rfl, OwnB.nil _ _, up_al (up_alloc _ _) _⟩
  · obtain ⟨k1, k2, n1, n2⟩ := may_le hmay
    rw [hmay] at HX HE HM
    simp at HX HE
    rw [HX, HE]
    clear HX HE
    have HO : Hid (Octs (((w.alloc (.cells #[.int .i64 k, .slice a l.length c] 36)).alloc (.cells #[.int .i64 k, .slice a l.length c] 36)).alloc (.cells #[.int .u8 k] 5)) (.slice a l.length c) l) := hv.up (up_al (up_al (up_alloc _ _) _) _)
    have HW : Hid (OwnB (((w.alloc (.cells #[.int .i64 k, .slice a l.length c] 36)).alloc (.cells #[.int .i64 k, .slice a l.length c] 36)).alloc (.cells #[.int .u8 k] 5)) w.heap.size (.slice (some ⟨w.heap.size + 1 + 1, 0, none⟩) 1 1) [k]) := own_one _ _ (by simp; omega) (by simp)
    have hm8 : k % 256 = k := by omega
    have HOX : Hid (OctL l) := hv.1
    clear hv
    go_enter Try.func37, Try.ntmps37
    go_wp2_with fail
    refine (HM.out _).mono ?_
    rintro e w1 ⟨rfl, rfl⟩
    go_wp2_with (at_builtin; refine wpList_append_octs _ rfl _ _ rfl w.heap.size _ [k] rfl HW.out _ l rfl HO.out ?c1 ?c2 ?_)
    case c1 => simp; omega
    case c2 => simp; omega
    intro v' w' hown hg
    obtain ⟨a', nq, c', rfl, hq⟩ := own_shape hown
    have HOW : Hid (OwnB w' w.heap.size (.slice a' nq c') ([k] ++ l)) := hown
    have HB : Hid (Below w.heap.size w w') := (up_al (up_al (up_alloc w (.cells #[.int .i64 k, .slice a l.length c] 36)) (.cells #[.int .i64 k, .slice a l.length c] 36)) (.cells #[.int .u8 k] 5)).grown hg (by simp; omega) (fun j hj => by simp [Value.ownBlock] at hj; omega)
    clear hown hg HO HW HM
    go_wp2
    go_ret2
    exact ⟨a', nq, c', rfl, hq.out, HOW.out, HB.out⟩

set_option maxHeartbeats 1000000 in
theorem refEncode_any (k : Int) (l : List Int) (a : Option Addr) (c : Nat) (w : World) (hv : Octs w (.slice a l.length c) l) :
    Calls Try.prog 22 #[.agg #[.int .i64 k, .slice a l.length c]] w fun e w' => ∃ a' n' c', e = .returned (.tuple #[.slice a' n' c', .int .i64 (chkE k l.length)]) ∧ n' = (encL k l).length ∧ OwnB w' w.heap.size (.slice a' n' c') (encL k l) ∧ Below w.heap.size w w' := by
  have HX : encL k l = if mayB k l.length then k :: l else [] := rfl
  have HE : chkE k l.length = if mayB k l.length then 0 else 9 := rfl
  have HM : Hid (∀ w : World, Calls Try.prog 45 #[.agg #[.int .i64 k, .slice a l.length c]] w fun e w' => e = .returned (.int .i64 (chkE k l.length)) ∧ w' = w.alloc (.cells #[.int .i64 k, .slice a l.length c] 55)) := fun w => check_anyB k a _ c w
  cases hmay : mayB k l.length
  · rw [hmay] at HX HE
    simp at HX HE
    rw [HX]
    rw [HE] at HM ⊢
    clear HX HE
    go_enter Try.func22, Try.ntmps22
    go_wp2_with fail
    refine (HM.out _).mono ?_
    rintro e w1 ⟨rfl, rfl⟩
    go_wp2
    go_ret2
    exact ⟨none, 0, 0, rfl, rfl, OwnB.nil _ _, up_al (up_alloc _ _) _⟩
  · obtain ⟨k1, k2, n1, n2⟩ := may_le hmay
    rw [hmay] at HX HE
    simp at HX HE
    rw [HX]
    rw [HE] at HM ⊢
    clear HX HE
    have HO : Hid (Octs (((w.alloc (.cells #[.int .i64 k, .slice a l.length c] 55)).alloc (.cells #[.int .i64 k, .slice a l.length c] 55)).alloc (.cells #[.int .u8 k] 5)) (.slice a l.length c) l) := hv.up (up_al (up_al (up_alloc _ _) _) _)
    have HW : Hid (OwnB (((w.alloc (.cells #[.int .i64 k, .slice a l.length c] 55)).alloc (.cells #[.int .i64 k, .slice a l.length c] 55)).alloc (.cells #[.int .u8 k] 5)) w.heap.size (.slice (some ⟨w.heap.size + 1 + 1, 0, none⟩) 1 1) [k]) := own_one _ _ (by simp; omega) (by simp)
    have hm8 : k % 256 = k := by omega
    have HOX : Hid (OctL l) := hv.1
    clear hv
    go_enter Try.func22, Try.ntmps22
    go_wp2_with fail
    refine (HM.out _).mono ?_
    rintro e w1 ⟨rfl, rfl⟩
    go_wp2_with (at_builtin; refine wpList_append_octs _ rfl _ _ rfl w.heap.size _ [k] rfl HW.out _ l rfl HO.out ?c1 ?c2 ?_)
    case c1 => simp; omega
    case c2 => simp; omega
    intro v' w' hown hg
    obtain ⟨a', nq, c', rfl, hq⟩ := own_shape hown
    have HOW : Hid (OwnB w' w.heap.size (.slice a' nq c') ([k] ++ l)) := hown
    have HB : Hid (Below w.heap.size w w') := (up_al (up_al (up_alloc w (.cells #[.int .i64 k, .slice a l.length c] 55)) (.cells #[.int .i64 k, .slice a l.length c] 55)) (.cells #[.int .u8 k] 5)).grown hg (by simp; omega) (fun j hj => by simp [Value.ownBlock] at hj; omega)
    clear hown hg HO HW HM
    go_wp2
    go_ret2
    exact ⟨a', nq, c', rfl, hq.out, HOW.out, HB.out⟩
end Go.Proofs.Ytekoniaobmapdab

/- Decode: octets as a filter, the program's and the document's. -/
namespace Go.Proofs.Ytekoniaobmapdab
open Go.RowKit
set_option linter.unusedVariables false
set_option maxRecDepth 20000

theorem Octs.rest {w : World} {b off n cap : Nat} {l : List Int} (h : Octs w (.slice (some ⟨b, off, none⟩) n cap) l) (hn : 1 ≤ l.length) (hl : l.length = n) : Octs w (.slice (some ⟨b, off + 1, none⟩) (n - 1) (cap - 1)) (l.drop 1) := by
  obtain ⟨hx, h⟩ := h
  refine ⟨fun x hxx => hx x (List.mem_of_mem_drop hxx), ?_⟩
  rcases h with ⟨e, _⟩ | ⟨hne, b', off', cap', e, hc, hm, hj⟩
  · rw [e] at hn; simp at hn
  · simp at e
    obtain ⟨⟨rfl, rfl⟩, e2, rfl⟩ := e
    by_cases h1 : l.length = 1
    · have e1 : n - 1 = 0 := by omega
      rw [e1]
      exact .inl ⟨by rw [List.drop_eq_nil_iff]; omega, _, _, rfl, fun h => by cases h⟩
    · refine .inr ⟨?_, b, off + 1, cap - 1, ?_, ?_, by omega, ?_⟩
      · intro e
        rw [List.drop_eq_nil_iff] at e
        omega
      · rw [List.length_drop, hl]
      · rw [List.length_drop]; omega
      · intro j x hjx
        rw [List.getElem?_drop] at hjx
        have := hj (1 + j) x hjx
        rw [show off + 1 + j = off + (1 + j) by omega]
        exact this

end Go.Proofs.Ytekoniaobmapdab

/- What follows of places alone: a key that was put in is in; more bits take nothing away; the order of the keys does not matter; an empty filter has no place set. -/
namespace Go.Proofs.Ytekoniaobmapdab
open Go.RowKit
set_option linter.unusedVariables false
set_option maxRecDepth 20000
set_option linter.unusedSimpArgs false

theorem and_or_zero (x y b : Nat) (h : ¬ (x &&& b) = 0) : ¬ ((x ||| y) &&& b) = 0 := by
  intro e
  refine h ?_
  rw [Nat.and_or_distrib_right] at e
  exact (Nat.or_eq_zero_iff.1 e).1
theorem or_self_bit (x b : Nat) (hb : b ≠ 0) : ¬ ((x ||| b) &&& b) = 0 := by
  rw [Nat.and_or_distrib_right, Nat.and_self]
  intro e
  exact hb (Nat.or_eq_zero_iff.1 e).2

theorem bit_pos (p : Nat) : bitN p ≠ 0 := by
  unfold bitN
  have : 0 < 2 ^ (p % 8) := Nat.pow_pos (by decide)
  omega

theorem setB_iff (l : List Int) (p : Nat) : setB l p = true ↔ ¬ ((l.getD (p / 8) 0).toNat &&& bitN p) = 0 := by
  unfold setB
  simp

theorem putL_get (l : List Int) (p o : Nat) (ho : o < l.length) : ((putL l p).getD o 0).toNat = if o = p / 8 then (l.getD o 0).toNat ||| bitN p else (l.getD o 0).toNat := by
  unfold putL
  by_cases h : o = p / 8
  · subst h
    rw [if_pos rfl]
    simp [List.getD, ho]
  · rw [if_neg h]
    have h' : ¬ p / 8 = o := fun e => h e.symm
    simp [List.getD, List.getElem?_set, h']

theorem setB_mono {l : List Int} {p q : Nat} (hq : q / 8 < l.length) (h : setB l q = true) : setB (putL l p) q = true := by
  rw [setB_iff] at h ⊢
  rw [putL_get l p _ hq]
  split
  · exact and_or_zero _ _ _ h
  · exact h
theorem setB_self {l : List Int} {p : Nat} (hp : p / 8 < l.length) : setB (putL l p) p = true := by
  rw [setB_iff, putL_get l p _ hp, if_pos rfl]
  exact or_self_bit _ _ (bit_pos p)

theorem setB_putI {h : Int} {n : Nat} {q : Nat} (hq : q / 8 < n) : ∀ (i : Nat) (l : List Int), l.length = n → setB l q = true → setB (putI h n i l) q = true
  | 0, l, _, hs => hs
  | i + 1, l, hl, hs => by
    rw [putI_succ]
    exact setB_mono (by rw [putI_len, hl]; exact hq) (setB_putI hq i l hl hs)
theorem setB_putI_self {h : Int} {n : Nat} (hn : 1 ≤ n) : ∀ (i : Nat) (l : List Int), l.length = n → ∀ j, j < i → setB (putI h n i l) (plc h j n) = true
  | 0, l, _, j, hj => absurd hj (by omega)
  | i + 1, l, hl, j, hj => by
    rw [putI_succ]
    by_cases e : j = i
    · subst e
      exact setB_self (by rw [putI_len, hl]; exact plc_lt hn)
    · exact setB_mono (by rw [putI_len, hl]; exact plc_lt hn) (setB_putI_self hn i l hl j (by omega))

theorem setB_fold {K n q : Nat} (hq : q / 8 < n) : ∀ (keys : List (List Int)) (l : List Int), l.length = n → setB l q = true → setB (keys.foldl (fun l key => putI (hashL key) n K l) l) q = true
  | [], l, _, h => h
  | k :: r, l, hl, h => setB_fold hq r _ (by rw [putI_len, hl]) (setB_putI hq K l hl h)
theorem setB_fold_mem {K n : Nat} (hn : 1 ≤ n) (key : List Int) (j : Nat) (hj : j < K) : ∀ (keys : List (List Int)) (l : List Int), l.length = n → key ∈ keys → setB (keys.foldl (fun l key => putI (hashL key) n K l) l) (plc (hashL key) j n) = true
  | [], l, _, h => by cases h
  | k :: r, l, hl, h => by
    rcases List.mem_cons.1 h with rfl | h
    · exact setB_fold (plc_lt hn) r _ (by rw [putI_len, hl]) (setB_putI_self hn K l hl j hj)
    · exact setB_fold_mem hn key j hj r _ (by rw [putI_len, hl]) h

/-- A key that was put in is in. -/
theorem make_has {keys : List (List Int)} {K n : Nat} (hn : 1 ≤ n) {key : List Int} (hk : key ∈ keys) : hasF (hashL key) K n (makeL keys K n) = true :=
  hasF_true fun j hj => setB_fold_mem hn key j hj keys _ (by simp) hk

/-- What Make answers may be, and has its keys. -/
theorem make_may {keys : List (List Int)} {each : Int} (he : errM each keys.length = 0) : mayB (makeR keys each).1 (makeR keys each).2.length = true ∧ ∀ key ∈ keys, hasF (hashL key) (makeR keys each).1.toNat (makeR keys each).2.length (makeR keys each).2 = true := by
  have h : each ≥ 1 ∧ each ≤ 16 ∧ keys.length ≤ 4096 := by
    unfold errM at he
    split at he
    · simp at he
    · split at he
      · simp at he
      · omega
  obtain ⟨n1, n2⟩ := nOf_le h.2.2 (show each.toNat ≤ 16 by omega)
  obtain ⟨k1, k2⟩ := kOf_le each.toNat
  have e : makeR keys each = (((kOf each.toNat : Nat) : Int), makeL keys (kOf each.toNat) (nOf keys.length each.toNat)) := by unfold makeR; rw [if_pos he]
  rw [e]
  simp only [makeL_len, Int.toNat_natCast]
  refine ⟨?_, fun key hk => make_has n1 hk⟩
  unfold mayB
  simp
  omega

end Go.Proofs.Ytekoniaobmapdab

/- A table of versions as octets, and octets as a table: plain lists. -/
namespace Go.Proofs.Ytekoniaobmapdab
open Go.RowKit SumPlain
set_option linter.unusedVariables false

def sameKT : Option (List Int) → List Int → Bool
  | none, _ => false
  | some q, k => q == k
/-- Each key once. -/
def keysT : Option (List Int) → List En → List (List Int)
  | _, [] => []
  | p, x :: r => cond (sameKT p (nums x.key)) [] [nums x.key] ++ keysT (some (nums x.key)) r
/-- A number in four octets. -/
def fourL (n : Nat) : List Int := [((n / 16777216 % 256 : Nat) : Int), ((n / 65536 % 256 : Nat) : Int), ((n / 256 % 256 : Nat) : Int), ((n % 256 : Nat) : Int)]
def numL (l : List Int) : Nat := (l.getD 0 0).toNat * 16777216 + (l.getD 1 0).toNat * 65536 + (l.getD 2 0).toNat * 256 + (l.getD 3 0).toNat
theorem num_four (n : Nat) (h : n < 4294967296) (r : List Int) : numL (fourL n ++ r) = n := by
  unfold numL fourL
  simp
  omega
theorem four_len (n : Nat) : (fourL n).length = 4 := rfl
theorem four_oct (n : Nat) : OctL (fourL n) := by
  unfold fourL OctL
  intro x hx
  simp at hx
  omega
/-- The j-th sixteen versions. -/
def chunkT (l : List En) (j : Nat) : List En := (l.drop (16 * j)).take 16
def manyT (l : List En) : Nat := (l.length + 15) / 16
def firstT (c : List En) : List Int := match c with | [] => [] | x :: _ => nums x.key
def idxE (c : List En) : List Int := octets ((encB c).1.length : Int) ++ (octets ((firstT c).length : Int) ++ firstT c)
def blkT (l : List En) (m : Nat) : List Int := (List.range m).flatMap fun j => (encB (chunkT l j)).1
def idxT (l : List En) (m : Nat) : List Int := (List.range m).flatMap fun j => idxE (chunkT l j)
theorem blkT_succ (l : List En) (m : Nat) : blkT l (m + 1) = blkT l m ++ (encB (chunkT l m)).1 := by
  unfold blkT; rw [List.range_succ, List.flatMap_append]; simp
theorem idxT_succ (l : List En) (m : Nat) : idxT l (m + 1) = idxT l m ++ idxE (chunkT l m) := by
  unfold idxT; rw [List.range_succ, List.flatMap_append]; simp
def filT (l : List En) : Int × List Int := makeR (keysT none l) 10
def fr2 (l : List En) : List Int := frameOf 2 (idxT l (manyT l))
def fr3 (l : List En) : List Int := frameOf 3 (encL (filT l).1 (filT l).2)
def footO (at' to' n : Nat) : List Int := guardOf ([116, 107, 116, 98] ++ (fourL at' ++ (fourL to' ++ fourL n)))
def atT (l : List En) : Nat := (blkT l (manyT l)).length
def toT (l : List En) : Nat := atT l + (fr2 l).length
def tabO (l : List En) : List Int := blkT l (manyT l) ++ (fr2 l ++ (fr3 l ++ footO (atT l) (toT l) l.length))
def chkT (l : List En) : Int := if l.length < 1 ∨ 4096 < l.length then 3 else ordE none l
def buildB (l : List En) : List Int × Int := if chkT l = 0 then (tabO l, 0) else ([], chkT l)

/-! ### what octets tell -/
def toldT : Nat → List Int → Nat → List Int → Nat → List En → List En
  | 0, _, _, _, _, out => out
  | f + 1, b, at', x, pos, out => if x = [] ∨ 4096 < out.length then out else
    if (getOf x).2.2 ≠ 0 ∨ ((at' - pos : Nat) : Int) < (getOf x).1 then [] else
      if (getOf (x.drop (getOf x).2.1.toNat)).2.2 ≠ 0 ∨ ((x.drop (getOf x).2.1.toNat).length : Int) - (getOf (x.drop (getOf x).2.1.toNat)).2.1 < (getOf (x.drop (getOf x).2.1.toNat)).1 then [] else
        if (decB ((b.drop pos).take (getOf x).1.toNat)).2 ≠ 0 then [] else
          toldT f b at' (x.drop ((getOf x).2.1.toNat + ((getOf (x.drop (getOf x).2.1.toNat)).2.1.toNat + (getOf (x.drop (getOf x).2.1.toNat)).1.toNat))) (pos + (getOf x).1.toNat) (out ++ (decB ((b.drop pos).take (getOf x).1.toNat)).1)
def toldX (b : List Int) (at' to' : Nat) : List En :=
  if to' < at' ∨ b.length < to' then [] else
    if (fget ((b.drop at').take (to' - at'))).2.2.2 ≠ 0 then [] else
      toldT (b.length + 1) b at' (fget ((b.drop at').take (to' - at'))).2.1 0 []
def footL (b : List Int) : List Int := b.drop (b.length - 20)
/-- What Open answers: the versions, the filter, the error. -/
def openB (b : List Int) : List En × (Int × List Int) × Int :=
  if b.length < 20 then ([], (0, []), 8) else
    if (bareOf (footL b)).2 ≠ 0 then ([], (0, []), (bareOf (footL b)).2) else
      if (bareOf (footL b)).1.take 4 ≠ [116, 107, 116, 98] then ([], (0, []), 22) else
        if buildB (toldX b (numL ((bareOf (footL b)).1.drop 4)) (numL ((bareOf (footL b)).1.drop 8))) = (b, 0) then
          (toldX b (numL ((bareOf (footL b)).1.drop 4)) (numL ((bareOf (footL b)).1.drop 8)), filT (toldX b (numL ((bareOf (footL b)).1.drop 4)) (numL ((bareOf (footL b)).1.drop 8))), 0)
        else ([], (0, []), 21)

theorem encB_len' (l : List En) : (encB l).1.length ≤ 41500 := by
  unfold encB
  by_cases h : chkB l = 0
  · rw [if_pos h]
    obtain ⟨l1, l2, hm⟩ := chkB_may h
    have h1 := bodyO_le l 0 [] hm
    have h2 := tailO_len l 0 [] 0
    simp only [guard_len, blockO, List.length_append, List.length_cons, List.length_nil]
    omega
  · rw [if_neg h]; simp
theorem encB_pos {l : List En} (h : chkB l = 0) : 5 ≤ (encB l).1.length := by
  unfold encB
  rw [if_pos h]
  simp only [guard_len, blockO, List.length_append, List.length_cons, List.length_nil]
  omega

/-! ### versions in order -/
theorem ordE_app : ∀ (a b : List En) (p : Option En), ordE p (a ++ b) = 0 → ordE p a = 0 ∧ ∃ q, ordE q b = 0 ∧ (a = [] → q = p)
  | [], b, p, h => ⟨rfl, p, h, fun _ => rfl⟩
  | x :: a, b, p, h => by
    rw [List.cons_append, ordE] at h
    rw [ordE]
    by_cases hm : mayE x = true
    · rw [if_pos hm] at h ⊢
      by_cases ha : aheadE p x = true
      · rw [if_pos ha] at h ⊢
        obtain ⟨h1, q, h2, _⟩ := ordE_app a b (some x) h
        exact ⟨h1, q, h2, fun e => by cases e⟩
      · rw [if_neg ha] at h; cases h
    · rw [if_neg hm] at h; cases h
theorem ordE_any : ∀ (l : List En) (p : Option En), ordE p l = 0 → ordE none l = 0
  | [], p, _ => rfl
  | x :: r, p, h => by
    rw [ordE] at h ⊢
    by_cases hm : mayE x = true
    · rw [if_pos hm] at h ⊢
      by_cases ha : aheadE p x = true
      · rw [if_pos ha] at h
        rw [if_pos (show aheadE none x = true from rfl)]
        exact h
      · rw [if_neg ha] at h; cases h
    · rw [if_neg hm] at h; cases h
theorem ordE_drop {l : List En} (h : ordE none l = 0) (k : Nat) : ordE none (l.drop k) = 0 := by
  have h' : ordE none (l.take k ++ l.drop k) = 0 := by rw [List.take_append_drop]; exact h
  obtain ⟨_, q, h2, _⟩ := ordE_app _ _ _ h'
  exact ordE_any _ q h2
theorem ordE_take {l : List En} (h : ordE none l = 0) (k : Nat) : ordE none (l.take k) = 0 := by
  have h' : ordE none (l.take k ++ l.drop k) = 0 := by rw [List.take_append_drop]; exact h
  exact (ordE_app _ _ _ h').1
theorem chunk_len (l : List En) (j : Nat) : (chunkT l j).length = min 16 (l.length - 16 * j) := by unfold chunkT; simp
theorem chunk_chk {l : List En} (h : ordE none l = 0) {j : Nat} (hj : 16 * j < l.length) : chkB (chunkT l j) = 0 := by
  unfold chkB
  rw [if_neg (by rw [chunk_len]; omega)]
  exact ordE_take (ordE_drop h _) _
/-! ### what is told of a table's octets are its versions -/
theorem blkT_more (l : List En) (j : Nat) : ∀ n, ∃ more, blkT l (j + n) = blkT l j ++ more
  | 0 => ⟨[], by simp⟩
  | n + 1 => by
    obtain ⟨m, h⟩ := blkT_more l j n
    refine ⟨m ++ (encB (chunkT l (j + n))).1, ?_⟩
    rw [← Nat.add_assoc, blkT_succ, h, List.append_assoc]
def idxR (l : List En) (j n : Nat) : List Int := (List.range' j n).flatMap fun i => idxE (chunkT l i)
theorem idxR_succ (l : List En) (j n : Nat) : idxR l j (n + 1) = idxE (chunkT l j) ++ idxR l (j + 1) n := by
  unfold idxR; rw [List.range'_succ]; simp
theorem idxR_all (l : List En) (m : Nat) : idxR l 0 m = idxT l m := by
  unfold idxR idxT; rw [List.range_eq_range']
theorem firstT_len {c : List En} (h : chkB c = 0) : (firstT c).length ≤ 96 := by
  obtain ⟨h1, h2, hm⟩ := chkB_may h
  cases c with
  | nil => simp at h1
  | cons x r => exact (mayE_le (hm x (by simp))).2.1
theorem idxE_ne (c : List En) (r : List Int) : idxE c ++ r ≠ [] := by
  have := octets_len ((encB c).1.length : Int) (by omega) (by have := encB_len' c; omega)
  intro q
  have h := congrArg List.length q
  unfold idxE at h
  simp only [List.length_append, List.length_nil] at h
  omega
theorem toldT_back (l : List En) (hl : ordE none l = 0) (hn : l.length ≤ 4096) : ∀ (n j : Nat) (f : Nat) (rest : List Int), (∀ i, i < j + n → 16 * i < l.length) → n < f →
    toldT f (blkT l (j + n) ++ rest) (blkT l (j + n)).length (idxR l j n) (blkT l j).length (l.take (16 * j)) = l.take (16 * (j + n))
  | 0, j, f, rest, _, hf => by
    obtain ⟨g, rfl⟩ : ∃ g, f = g + 1 := ⟨f - 1, by omega⟩
    rw [toldT, if_pos (.inl rfl)]
    simp
  | n + 1, j, f, rest, hi, hf => by
    obtain ⟨g, rfl⟩ : ∃ g, f = g + 1 := ⟨f - 1, by omega⟩
    have hj := hi j (by omega)
    have hc := chunk_chk hl hj
    have hlen := encB_len' (chunkT l j)
    have hfl := firstT_len hc
    obtain ⟨more, hm⟩ := blkT_more l (j + 1) n
    have hb : blkT l (j + (n + 1)) = blkT l j ++ ((encB (chunkT l j)).1 ++ more) := by
      rw [show j + (n + 1) = j + 1 + n by omega, hm, blkT_succ, List.append_assoc]
    have hx : idxR l j (n + 1) = octets ((encB (chunkT l j)).1.length : Int) ++ (octets ((firstT (chunkT l j)).length : Int) ++ (firstT (chunkT l j) ++ idxR l (j + 1) n)) := by
      rw [idxR_succ]; unfold idxE; simp
    have hne : idxR l j (n + 1) ≠ [] := by rw [idxR_succ]; exact idxE_ne _ _
    have g1 := getOf_octets ((encB (chunkT l j)).1.length : Int) (by omega) (by omega) (octets ((firstT (chunkT l j)).length : Int) ++ (firstT (chunkT l j) ++ idxR l (j + 1) n))
    have g2 := getOf_octets ((firstT (chunkT l j)).length : Int) (by omega) (by omega) (firstT (chunkT l j) ++ idxR l (j + 1) n)
    have hd : ((blkT l (j + (n + 1)) ++ rest).drop (blkT l j).length).take (encB (chunkT l j)).1.length = (encB (chunkT l j)).1 := by
      rw [hb, List.append_assoc, List.drop_left, List.append_assoc, List.take_left]
    have hdec := dec_encB hc
    have hlb : (blkT l (j + (n + 1))).length = (blkT l j).length + ((encB (chunkT l j)).1.length + more.length) := by rw [hb]; simp
    have IH := toldT_back l hl hn n (j + 1) g rest (fun i h => hi i (by omega)) (by omega)
    rw [show j + 1 + n = j + (n + 1) by omega] at IH
    have hpos : (blkT l (j + 1)).length = (blkT l j).length + (encB (chunkT l j)).1.length := by rw [blkT_succ]; simp
    have htk : l.take (16 * (j + 1)) = l.take (16 * j) ++ chunkT l j := by
      unfold chunkT; rw [← List.take_add, show 16 * j + 16 = 16 * (j + 1) by omega]
    rw [hpos, htk] at IH
    rw [toldT, if_neg (by
      rintro (h | h)
      · exact hne h
      · simp at h; omega)]
    rw [hx, g1]
    simp only [Int.toNat_natCast]
    rw [if_neg (by
      rintro (h | h)
      · exact h rfl
      · rw [hlb] at h; omega)]
    rw [List.drop_left, g2]
    simp only [Int.toNat_natCast]
    rw [if_neg (by
      rintro (h | h)
      · exact h rfl
      · simp at h; omega)]
    rw [hd, hdec]
    simp only
    rw [if_neg (by simp)]
    have hdr : (octets ((encB (chunkT l j)).1.length : Int) ++ (octets ((firstT (chunkT l j)).length : Int) ++ (firstT (chunkT l j) ++ idxR l (j + 1) n))).drop ((octets ((encB (chunkT l j)).1.length : Int)).length + ((octets ((firstT (chunkT l j)).length : Int)).length + (firstT (chunkT l j)).length)) = idxR l (j + 1) n := by
      rw [← List.drop_drop, List.drop_left, ← List.drop_drop, List.drop_left, List.drop_left]
    rw [hdr]
    exact IH
theorem many_le {l : List En} : (∀ i, i < manyT l → 16 * i < l.length) ∧ l.length ≤ 16 * manyT l := by unfold manyT; exact ⟨fun i h => by omega, by omega⟩
theorem idxE_len {c : List En} (h : chkB c = 0) : (idxE c).length ≤ 114 := by
  have h1 := octets_len ((encB c).1.length : Int) (by omega) (by have := encB_len' c; omega)
  have h2 := octets_len ((firstT c).length : Int) (by omega) (by have := firstT_len h; omega)
  have h3 := firstT_len h
  unfold idxE
  simp
  omega
theorem idxT_len {l : List En} (hl : ordE none l = 0) : ∀ m, (∀ i, i < m → 16 * i < l.length) → (idxT l m).length ≤ 114 * m
  | 0, _ => by simp [idxT]
  | m + 1, h => by
    have := idxT_len hl m (fun i hi => h i (by omega))
    have := idxE_len (chunk_chk hl (h m (by omega)))
    rw [idxT_succ]
    simp
    omega
theorem blkT_len (l : List En) : ∀ m, (blkT l m).length ≤ 41500 * m
  | 0 => by simp [blkT]
  | m + 1 => by
    have := blkT_len l m
    have := encB_len' (chunkT l m)
    rw [blkT_succ]
    simp
    omega
theorem blkT_len' (l : List En) (hl : ordE none l = 0) : ∀ m, (∀ i, i < m → 16 * i < l.length) → m ≤ (blkT l m).length
  | 0, _ => by simp
  | m + 1, h => by
    have := blkT_len' l hl m (fun i hi => h i (by omega))
    have := encB_pos (chunk_chk hl (h m (by omega)))
    rw [blkT_succ]
    simp
    omega
theorem chkT_ok {l : List En} (h : chkT l = 0) : 1 ≤ l.length ∧ l.length ≤ 4096 ∧ ordE none l = 0 := by
  unfold chkT at h
  by_cases hc : l.length < 1 ∨ 4096 < l.length
  · rw [if_pos hc] at h; cases h
  · rw [if_neg hc] at h; exact ⟨by omega, by omega, h⟩
theorem many_256 {l : List En} (h : l.length ≤ 4096) : manyT l ≤ 256 := by unfold manyT; omega
theorem fr2_len {l : List En} (h : chkT l = 0) : (fr2 l).length ≤ 29198 ∧ (idxT l (manyT l)).length ≤ 29184 := by
  obtain ⟨h1, h2, h3⟩ := chkT_ok h
  have a := idxT_len h3 (manyT l) many_le.1
  have b := many_256 h2
  have c := frame_len 2 (idxT l (manyT l))
  have d := octets_len ((idxT l (manyT l)).length : Int) (by omega) (by omega)
  unfold fr2
  constructor <;> omega
theorem at_len {l : List En} (h : chkT l = 0) : atT l ≤ 10624000 ∧ toT l ≤ 10653198 := by
  obtain ⟨h1, h2, h3⟩ := chkT_ok h
  have a := blkT_len l (manyT l)
  have b := many_256 h2
  have c := (fr2_len h).1
  unfold toT atT
  constructor <;> omega
theorem told_tab {l : List En} (h : chkT l = 0) : toldX (tabO l) (atT l) (toT l) = l := by
  obtain ⟨h1, h2, h3⟩ := chkT_ok h
  have hf := fr2_len h
  have hto : toT l = atT l + (fr2 l).length := rfl
  have hlen : (tabO l).length = (blkT l (manyT l)).length + ((fr2 l).length + ((fr3 l).length + (footO (atT l) (toT l) l.length).length)) := by unfold tabO; simp
  have hat : atT l = (blkT l (manyT l)).length := rfl
  unfold toldX
  rw [if_neg (by rw [hlen]; omega)]
  have hd : ((tabO l).drop (atT l)).take (toT l - atT l) = fr2 l := by
    unfold tabO
    rw [show toT l - atT l = (fr2 l).length by omega, show (blkT l (manyT l) ++ (fr2 l ++ (fr3 l ++ footO (atT l) (toT l) l.length))).drop (atT l) = fr2 l ++ (fr3 l ++ footO (atT l) (toT l) l.length) from List.drop_left, List.take_left]
  have hg := fget_back 2 (idxT l (manyT l)) [] (by omega)
  rw [List.append_nil] at hg
  rw [hd]
  rw [show fget (fr2 l) = (2, idxT l (manyT l), ((fr2 l).length : Int), 0) from hg]
  simp only
  rw [if_neg (by simp)]
  have hb := toldT_back l h3 h2 (manyT l) 0 ((tabO l).length + 1) (fr2 l ++ (fr3 l ++ footO (atT l) (toT l) l.length)) (fun i hi => many_le.1 i (by omega)) (by
    have := blkT_len' l h3 (manyT l) many_le.1
    rw [hlen]; omega)
  rw [Nat.zero_add, idxR_all] at hb
  have e0 : (blkT l 0).length = 0 := rfl
  rw [e0] at hb
  have e1 : l.take (16 * 0) = [] := rfl
  rw [e1] at hb
  have e2 : l.take (16 * manyT l) = l := List.take_of_length_le many_le.2
  rw [e2] at hb
  exact hb
theorem foot_len (a t n : Nat) : (footO a t n).length = 20 := by
  unfold footO
  rw [guard_len]
  rfl
theorem foot_tab (l : List En) : footL (tabO l) = footO (atT l) (toT l) l.length := by
  unfold footL tabO
  have hf := foot_len (atT l) (toT l) l.length
  generalize footO (atT l) (toT l) l.length = F at *
  rw [← List.append_assoc, ← List.append_assoc, List.length_append, hf, Nat.add_sub_cancel, List.drop_left]
theorem foot_bare (a t n : Nat) : bareOf (footO a t n) = ([116, 107, 116, 98] ++ (fourL a ++ (fourL t ++ fourL n)), 0) := bare_guard _
theorem open_tab {l : List En} (h : chkT l = 0) : openB (tabO l) = (l, filT l, 0) := by
  have hlen : 20 ≤ (tabO l).length := by
    unfold tabO
    simp [foot_len]
    omega
  have hl := at_len h
  have e4 : ([116, 107, 116, 98] ++ (fourL (atT l) ++ (fourL (toT l) ++ fourL l.length))).drop 4 = fourL (atT l) ++ (fourL (toT l) ++ fourL l.length) := rfl
  have e8 : ([116, 107, 116, 98] ++ (fourL (atT l) ++ (fourL (toT l) ++ fourL l.length))).drop 8 = fourL (toT l) ++ fourL l.length := rfl
  have hB : buildB l = (tabO l, 0) := by unfold buildB; rw [if_pos h]
  unfold openB
  rw [if_neg (by omega), foot_tab, foot_bare]
  simp only
  rw [if_neg (by simp), if_neg (by simp), e4, e8, num_four _ (by omega), num_four _ (by omega), told_tab h, if_pos hB]
end Go.Proofs.Ytekoniaobmapdab

/- The document's order: the places of the nodes in the order of their versions. -/
namespace Go.Proofs.Ytekoniaobmapdab
open Go.RowKit
set_option linter.unusedVariables false
set_option linter.unusedSimpArgs false

instance inhEnS : Inhabited En := ⟨⟨⟨#[]⟩, 0, 0, ⟨#[]⟩⟩⟩
/-- Where a version goes among places that are in order. -/
def posF (l : List En) (x : En) (out : List Nat) : Nat := out.findIdx fun k => !beforeE (l.getD k default) x
def insF (l : List En) (out : List Nat) (i : Nat) : List Nat := out.take (posF l (l.getD i default) out) ++ [i] ++ out.drop (posF l (l.getD i default) out)
def orderF (l : List En) : Nat → List Nat
  | 0 => []
  | n + 1 => insF l (orderF l n) n
theorem posF_le (l : List En) (x : En) (out : List Nat) : posF l x out ≤ out.length := List.findIdx_le_length
theorem orderF_len (l : List En) : ∀ n, (orderF l n).length = n := by
  intro n
  induction n with
  | zero => rfl
  | succ n ih =>
    have := posF_le l (l.getD n default) (orderF l n)
    simp only [orderF, insF, List.length_append, List.length_take, List.length_drop, List.length_cons, List.length_nil, ih] at *
    omega
theorem orderF_lt (l : List En) : ∀ n j, j ∈ orderF l n → j < n := by
  intro n
  induction n with
  | zero => intro j h; cases h
  | succ n ih =>
    intro j h
    simp only [orderF, insF, List.mem_append, List.mem_singleton] at h
    rcases h with (h | h) | h
    · have := ih j (List.mem_of_mem_take h); omega
    · omega
    · have := ih j (List.mem_of_mem_drop h); omega

def nrow (p : En × Value) : List Value := enRow p.1 ++ [p.2]
/-- The slice v holds in w nodes of these versions and ways. -/
def NodesE (w : World) (v : Value) (es : List (En × Value)) : Prop := Rws 5 w v (es.map nrow)
theorem NodesE.up {w w' : World} {v : Value} {es : List (En × Value)} (h : NodesE w v es) (hb : Below w.heap.size w w') : NodesE w' v es := Rws.up h hb
theorem NodesE.len {w : World} {v : Value} {es : List (En × Value)} (h : NodesE w v es) : ∃ a cap, v = .slice a es.length cap ∧ es.length ≤ cap ∧ cap ≤ maxLen := by
  obtain ⟨a, c, e, h1, h2⟩ := Rws.len h
  simp only [List.length_map] at e h1
  exact ⟨a, c, e, h1, h2⟩
theorem NodesE.at {w : World} {v : Value} {es : List (En × Value)} (h : NodesE w v es) (k : Nat) (hk : k < es.length) :
    ∃ b off cap n s, v = .slice (some ⟨b, off, none⟩) es.length cap ∧ es[k]? = some (n, s) ∧ w.cell? ⟨b, off + k * 5, none⟩ = some (.string n.key) ∧ w.cell? ⟨b, off + k * 5 + 1, none⟩ = some (.int .i64 n.seq) ∧ w.cell? ⟨b, off + k * 5 + 2, none⟩ = some (.int .i64 n.kind) ∧ w.cell? ⟨b, off + k * 5 + 3, none⟩ = some (.string n.val) ∧ w.cell? ⟨b, off + k * 5 + 4, none⟩ = some s := by
  obtain ⟨b, off, cap, e, _, _, hc⟩ := Rws.at h k (by simpa using hk)
  simp only [List.length_map] at e
  have hg : (es.map nrow).getD k [] = nrow es[k] := by simp [List.getD, hk]
  rw [hg] at hc
  refine ⟨b, off, cap, es[k].1, es[k].2, e, by simp [hk], ?_, ?_, ?_, ?_, ?_⟩
  · simpa using hc 0 _ rfl
  · simpa using hc 1 _ rfl
  · simpa using hc 2 _ rfl
  · simpa using hc 3 _ rfl
  · simpa using hc 4 _ rfl
end Go.Proofs.Ytekoniaobmapdab
