/- The program's dayOfMonth. -/
import Derived.Test.YtpjmieiajhhbaaaDoorDMin
namespace Go.Proofs.YtpjmieiajhhbaaaDoor
open Go.RowKit
set_option linter.unusedVariables false
set_option linter.unusedSimpArgs false

theorem IsDate.on {n y m d : Int} (h : IsDate n y m d) {j : Int} (j0 : 1 - d ≤ j) (j1 : d + j ≤ lenM y m) : IsDate (n + j) y m (d + j) := by
  obtain ⟨y0, y1, m0, m1, d0, d1, e⟩ := h
  refine ⟨y0, y1, m0, m1, by omega, j1, ?_⟩
  unfold dayP at *
  omega
/-- Does a rule come on a day, of those that its months let in? -/
def fitAt (r : Ru) (n d : Int) : Bool := fitsP r d.toNat ((n + 4) % 7).toNat
theorem day_fit {r : Ru} (hc : checkP r = 0) {n y m d : Int} (h : IsDate n y m d) : dayAt r n = (r.mo.testBit m.toNat && fitAt r n d) := by
  obtain ⟨-, em, ed⟩ := date_eq h
  have l := lenM_pos y m
  have d0 := h.d0
  have d1 := h.d1
  unfold dayAt fitAt
  rw [← em, ← ed]
  exact fits_day r hc _ _ _ (by omega) (by omega) (by omega)
/-- What dayOfMonth returns: the first day of a month from one on. -/
def DomE (r : Ru) (n y m d : Int) (e : Ending) : Prop := ∃ (x : Int) (b : Bool), e = .returned (.tuple #[.int .i64 x, .bool b]) ∧
  ((b = true ∧ d ≤ x ∧ x ≤ lenM y m ∧ fitAt r (n + (x - d)) x = true ∧ ∀ k, d ≤ k → k < x → fitAt r (n + (k - d)) k = false) ∨ (b = false ∧ ∀ k, d ≤ k → k ≤ lenM y m → fitAt r (n + (k - d)) k = false))
set_option maxHeartbeats 2000000 in
set_option maxRecDepth 20000 in
theorem dayOfMonth_any (r : Ru) (hr : r.ok) (n y m d : Int) (h : IsDate n y m d) (w : World) (he : Env w) :
    Calls Tryd.prog 96 #[ruV r, .int .i64 y, .int .i64 m, .int .i64 d] w fun e w' => DomE r n y m d e ∧ Below w.heap.size w w' := by
  have HD : Hid (∀ w', Below w.heap.size w w' → Calls Tryd.prog 97 #[.int .i64 y, .int .i64 m, .int .i64 d] w' fun e w'' => e = .returned (.tuple #[.int .i64 n, .int .i64 0]) ∧ w'' = w') := by
    intro w' hb
    have := day_any y m d w' (he.up hb)
    rw [dayQ_of h] at this
    exact this
  have HL : Hid (∀ w', Below w.heap.size w w' → Calls Tryd.prog 98 #[.int .i64 y, .int .i64 m] w' fun e w'' => e = .returned (.tuple #[.int .i64 (lenM y m), .int .i64 0]) ∧ w'' = w') := by
    intro w' hb
    have := days_any y m w' (he.up hb)
    rw [show daysP y m = (lenM y m, 0) from if_pos ⟨h.y0, h.y1, h.m0, h.m1⟩] at this
    exact this
  obtain ⟨n0, n1⟩ := h.bounds
  have HS : Hid (∀ w', Below w.heap.size w w' → Calls Tryd.prog 107 #[.int .i64 (n * 86400)] w' fun e w'' => e = .returned (retM (momP (n * 86400))) ∧ Below w'.heap.size w' w'') := fun w' hb => Split_any _ w' (he.up hb)
  have e : momP (n * 86400) = ([dateY (n * 86400 / 86400), dateM (n * 86400 / 86400), dateD (n * 86400 / 86400), hourT (n * 86400), minT (n * 86400), secT (n * 86400), (n * 86400 / 86400 + 4) % 7], 0) := if_pos ⟨by omega, by omega⟩
  have R : ∀ a b c d e f g x, retM ([a, b, c, d, e, f, g], x) = .tuple #[.agg #[.int .i64 a, .int .i64 b, .int .i64 c, .int .i64 d, .int .i64 e, .int .i64 f, .int .i64 g], .int .i64 x] := fun _ _ _ _ _ _ _ _ => rfl
  rw [e, R, show n * 86400 / 86400 = n by omega] at HS
  have lm := lenM_pos y m
  have d0 := h.d0
  have d1 := h.d1
  have HF : Hid (∀ k : Int, d ≤ k → k ≤ lenM y m → ∀ w', Calls Tryd.prog 108 #[ruV r, .int .i64 k, .int .i64 ((n + (k - d) + 4) % 7)] w' fun e w'' => e = .returned (.bool (fitAt r (n + (k - d)) k)) ∧ Below w'.heap.size w' w'') := by
    intro k k0 k1 w'
    have := dayFits_any r hr k.toNat ((n + (k - d) + 4) % 7).toNat (by omega) (by omega) w'
    rw [nat_of (by omega : 0 ≤ k), nat_of (by omega : 0 ≤ (n + (k - d) + 4) % 7)] at this
    exact this
  have b0 := hid (blk_new w (.cells #[.int .u64 (r.mi : Int), .int .u64 (r.ho : Int), .int .u64 (r.da : Int), .int .u64 (r.mo : Int), .int .u64 (r.we : Int), .bool r.ad, .bool r.aw] 117))
  have hb0 := hid (up_alloc w (.cells #[.int .u64 (r.mi : Int), .int .u64 (r.ho : Int), .int .u64 (r.da : Int), .int .u64 (r.mo : Int), .int .u64 (r.we : Int), .bool r.ad, .bool r.aw] 117))
  have FIN : Hid (∀ (x : Int) (b : Bool), ((b = true ∧ d ≤ x ∧ x ≤ lenM y m ∧ fitAt r (n + (x - d)) x = true ∧ ∀ k, d ≤ k → k < x → fitAt r (n + (k - d)) k = false) ∨ (b = false ∧ ∀ k, d ≤ k → k ≤ lenM y m → fitAt r (n + (k - d)) k = false)) → DomE r n y m d (.returned (.tuple #[.int .i64 x, .bool b]))) := fun x b h => ⟨x, b, rfl, h⟩
  clear he hr e R h
  rw [ruV_form] at HF
  rw [ruV_form]
  generalize lenM y m = L at *
  generalize dateY n = qy at *
  generalize dateM n = qm at *
  generalize dateD n = qd at *
  generalize hourT (n * 86400) = qh at *
  generalize minT (n * 86400) = qi at *
  generalize secT (n * 86400) = qs at *
  generalize hwd : (n + 4) % 7 = wd at *
  have HW := hid hwd
  clear hwd
  go_enter Tryd.func96, Tryd.ntmps96
  go_wp2_with fail
  refine (HD.out _ hb0.out).mono ?_
  rintro e w1 ⟨rfl, rfl⟩
  go_wp2_with fail
  refine (HS.out _ hb0.out).mono ?_
  rintro e w2 ⟨rfl, hb2⟩
  have u2 := hid (up_al (up_trans hb0.out hb2) (.cells #[.int .i64 qy, .int .i64 qm, .int .i64 qd, .int .i64 qh, .int .i64 qi, .int .i64 qs, .int .i64 wd] 170))
  have k2 := hid (blk_up (blk_up b0.out hb2) (up_alloc w2 (.cells #[.int .i64 qy, .int .i64 qm, .int .i64 qd, .int .i64 qh, .int .i64 qi, .int .i64 qs, .int .i64 wd] 170)))
  have m2 := blk_new w2 (.cells #[.int .i64 qy, .int .i64 qm, .int .i64 qd, .int .i64 qh, .int .i64 qi, .int .i64 qs, .int .i64 wd] 170)
  have c6 := blk_cell m2 6 _ rfl
  clear m2 b0 hb0 HD HS
  go_wp2_with fail
  refine (HL.out _ u2.out).mono ?_
  rintro e w3 ⟨rfl, rfl⟩
  go_wp2_with fail
  clear hb2
  generalize hWW : World.alloc w2 _ = W2 at *
  have U2 := hid u2.out
  have K2 := hid k2.out
  clear u2 k2 c6 hWW HL
  go_loopw [16, 17] (fun q x wr => ∃ k : Int, d ≤ k ∧ k ≤ L + 1 ∧ x = .int .i64 k ∧ q = .int .i64 ((n + (k - d) + 4) % 7) ∧ Hid (∀ j, d ≤ j → j < k → fitAt r (n + (j - d)) j = false) ∧ Hid (Below W2.heap.size W2 wr)) (fun _ x _ => (L + 1 - intOf x).toNat)
  case atStart => exact ⟨d, by omega, by omega, rfl, by rw [Int.sub_self, Int.add_zero, HW.out], fun j h1 h2 => by omega, Below.refl _ _⟩
  case round =>
    obtain ⟨k, k0, k1, rfl, rfl, HN, HB⟩ := hrel
    by_cases c : k ≤ L
    · have kk := blk_up K2.out HB.out
      have x0 := blk_cell kk 0 _ rfl
      have x1 := blk_cell kk 1 _ rfl
      have x2 := blk_cell kk 2 _ rfl
      have x3 := blk_cell kk 3 _ rfl
      have x4 := blk_cell kk 4 _ rfl
      have x5 := blk_cell kk 5 _ rfl
      have x6 := blk_cell kk 6 _ rfl
      clear kk
      have F1 := hid (HF.out k k0 c)
      have e1 : Int.tmod ((n + (k - d) + 4) % 7 + 1) 7 = (n + (k + 1 - d) + 4) % 7 := by
        rw [Int.tmod_eq_emod_of_nonneg (by omega)]
        omega
      have g0 : 0 ≤ (n + (k - d) + 4) % 7 := by omega
      have g1 : (n + (k - d) + 4) % 7 < 7 := by omega
      generalize hf : fitAt r (n + (k - d)) k = b at *
      generalize (n + (k - d) + 4) % 7 = q at *
      cases b
      · have HN2 : Hid (∀ j, d ≤ j → j < k + 1 → fitAt r (n + (j - d)) j = false) := by
          intro j h1 h2
          by_cases e : j = k
          · subst e; exact hf
          · exact HN.out j h1 (by omega)
        clear hf HN
        go_wp2_with fail
        refine (F1.out _).mono ?_
        rintro e w4 ⟨rfl, hb4⟩
        go_wp2_with fail
        exact ⟨⟨k + 1, by omega, by omega, by go_num, by first | rfl | go_num | rw [e1], HN2, up_trans HB.out hb4⟩, by simp [intOf]; omega⟩
      · have G := hid (FIN.out k true (.inl ⟨rfl, k0, c, hf, HN.out⟩))
        clear hf HN
        go_wp2_with fail
        refine (F1.out _).mono ?_
        rintro e w4 ⟨rfl, hb4⟩
        go_wp2_with fail
        go_ret2
        exact ⟨G.out, up_trans U2.out (up_trans HB.out hb4)⟩
    · have G := hid (FIN.out 0 false (.inr ⟨rfl, fun j h1 h2 => HN.out j h1 (by omega)⟩))
      go_wp2_with fail
      go_ret2
      exact ⟨G.out, up_trans U2.out HB.out⟩
end Go.Proofs.YtpjmieiajhhbaaaDoor
