/- The program's dayFrom. -/
import Derived.Test.YtpjmieiajhhbaaaDoorDDom
namespace Go.Proofs.YtpjmieiajhhbaaaDoor
open Go.RowKit
set_option linter.unusedVariables false
set_option linter.unusedSimpArgs false

theorem month_next {n y m : Int} (h : IsDate n y m (lenM y m)) : (m < 12 ∧ IsDate (n + 1) y (m + 1) 1) ∨ (m = 12 ∧ y < 2999 ∧ IsDate (n + 1) (y + 1) 1 1) ∨ (m = 12 ∧ y = 2999 ∧ n + 1 = 376200) := by
  obtain ⟨y0, y1, m0, m1, d0, d1, e⟩ := h
  unfold dayP at e
  have km : ((m - 1).toNat : Int) + 1 = m := by omega
  have ks : (m + 1 - 1).toNat = (m - 1).toNat + 1 := by omega
  have cn := cum_next y (m - 1).toNat
  rw [km] at cn
  by_cases c : m < 12
  · left
    refine ⟨c, y0, y1, by omega, by omega, by omega, by have := lenM_pos y (m + 1); omega, ?_⟩
    unfold dayP
    rw [ks, cn]
    omega
  · have c : m = 12 := by omega
    have k12 : (m - 1).toNat + 1 = 12 := by omega
    rw [k12, cum_all] at cn
    have b := bgn_next y
    have c0 : cumM (y + 1) ((1 : Int) - 1).toNat = 0 := rfl
    by_cases q : y < 2999
    · right; left
      refine ⟨c, q, by omega, by omega, by omega, by omega, by omega, by have := lenM_pos (y + 1) 1; omega, ?_⟩
      unfold dayP
      rw [c0]
      omega
    · right; right
      have q : y = 2999 := by omega
      subst q
      have b3 := bgn_last
      have b : bgn 3000 = bgn 2999 + lenY 2999 := b
      exact ⟨c, rfl, by omega⟩
/-- What a round of the months finds. -/
def DfAt (r : Ru) (s y m d why : Int) : Prop := (why = 0 ∧ ∃ n, IsDate n y m d ∧ s ≤ n ∧ ∀ k, s ≤ k → k < n → dayAt r k = false) ∨ (why = 4 ∧ ∀ k, s ≤ k → k < 376200 → dayAt r k = false)
/-- No day of this month: the next one's state. -/
theorem df_next {r : Ru} {s n y m d : Int} (h : IsDate n y m d) (hs : s ≤ n) (hn : ∀ k, s ≤ k → k < n → dayAt r k = false) (hm : ∀ k, n ≤ k → k ≤ n + (lenM y m - d) → dayAt r k = false) :
    (m < 12 → DfAt r s y (m + 1) 1 (daysP y (m + 1)).2) ∧ (¬ m < 12 → DfAt r s (y + 1) 1 1 (daysP (y + 1) 1).2) := by
  have d1 := h.d1
  have d0 := h.d0
  have hl := h.on (j := lenM y m - d) (by omega) (by omega)
  rw [show d + (lenM y m - d) = lenM y m by omega] at hl
  have all : ∀ k, s ≤ k → k < n + (lenM y m - d) + 1 → dayAt r k = false := fun k h1 h2 => by
    by_cases c : k < n
    · exact hn k h1 c
    · exact hm k (by omega) (by omega)
  have ok : ∀ y' m', IsDate (n + (lenM y m - d) + 1) y' m' 1 → DfAt r s y' m' 1 (daysP y' m').2 := fun y' m' h' => by
    left
    refine ⟨by rw [show daysP y' m' = (lenM y' m', 0) from if_pos ⟨h'.y0, h'.y1, h'.m0, h'.m1⟩], _, h', by omega, all⟩
  rcases month_next hl with ⟨c, h'⟩ | ⟨c, q, h'⟩ | ⟨c, q, e⟩
  · exact ⟨fun _ => ok _ _ h', fun k => absurd c k⟩
  · exact ⟨fun k => by omega, fun _ => ok _ _ h'⟩
  · refine ⟨fun k => by omega, fun _ => ?_⟩
    subst q
    right
    refine ⟨by rfl, fun k h1 h2 => all k h1 (by omega)⟩
/-- What dayFrom returns: the first day from one on at which the rule comes. -/
def DayE (r : Ru) (s : Int) (e : Ending) : Prop := ∃ (x : Int) (b : Bool), e = .returned (.tuple #[.int .i64 x, .bool b]) ∧
  ((b = true ∧ s ≤ x ∧ x < 376200 ∧ dayAt r x = true ∧ ∀ k, s ≤ k → k < x → dayAt r k = false) ∨ (b = false ∧ ∀ k, s ≤ k → k < 376200 → dayAt r k = false))
theorem dateQ_at {s : Int} (s0 : 0 ≤ s) {r : Ru} : DfAt r s (dateQ s).1 (dateQ s).2.1 (dateQ s).2.2.1 (dateQ s).2.2.2 ∧ 0 ≤ (dateQ s).1 ∧ (dateQ s).1 ≤ 2999 ∧ 0 ≤ (dateQ s).2.1 ∧ (dateQ s).2.1 ≤ 12 := by
  by_cases h : 0 ≤ s ∧ s < 376200
  · have D := date_is h.1 h.2
    have e : dateQ s = (dateY s, dateM s, dateD s, 0) := if_pos h
    rw [e]
    have a := D.y0
    have b := D.y1
    have c := D.m0
    have d := D.m1
    exact ⟨.inl ⟨rfl, s, D, Int.le_refl _, fun k h1 h2 => by omega⟩, by show 0 ≤ dateY s; omega, b, by show 0 ≤ dateM s; omega, d⟩
  · have e : dateQ s = (0, 0, 0, 4) := if_neg h
    rw [e]
    exact ⟨.inr ⟨rfl, fun k h1 h2 => by omega⟩, by decide, by decide, by decide, by decide⟩
set_option maxHeartbeats 4000000 in
set_option maxRecDepth 20000 in
theorem dayFrom_any (r : Ru) (hr : r.ok) (hc : checkP r = 0) (s : Int) (s0 : 0 ≤ s) (w : World) (he : Env w) :
    Calls Tryd.prog 82 #[ruV r, .int .i64 s] w fun e w' => DayE r s e ∧ Below w.heap.size w w' := by
  have HD : Hid (∀ w', Below w.heap.size w w' → Calls Tryd.prog 95 #[.int .i64 s] w' fun e w'' => e = .returned (.tuple #[.int .i64 (dateQ s).1, .int .i64 (dateQ s).2.1, .int .i64 (dateQ s).2.2.1, .int .i64 (dateQ s).2.2.2]) ∧ w'' = w') := fun w' hb => date_any s w' (he.up hb)
  obtain ⟨st, g0, g1, g2, g3⟩ := dateQ_at s0 (r := r)
  have ST := hid st
  have HE := hid he
  have sm : r.mo < 18446744073709551616 := hr _ (by simp [Ru.sets])
  have HH : Hid (∀ m : Int, 0 ≤ m → m ≤ 12 → ∀ w', Calls Tryd.prog 93 #[.int .u64 (r.mo : Int), .int .i64 m] w' fun e w'' => e = .returned (.bool (r.mo.testBit m.toNat)) ∧ w'' = w') := by
    intro m m0 m1 w'
    have := hasP_any r.mo m.toNat sm (by omega) w'
    rw [nat_of m0] at this
    exact this
  have HM : Hid (∀ n y m d : Int, IsDate n y m d → ∀ w', Below w.heap.size w w' → Calls Tryd.prog 96 #[ruV r, .int .i64 y, .int .i64 m, .int .i64 d] w' fun e w'' => DomE r n y m d e ∧ Below w'.heap.size w' w'') := fun n y m d h w' hb => dayOfMonth_any r hr n y m d h w' (he.up hb)
  have HY : Hid (∀ n y m d : Int, IsDate n y m d → ∀ w', Below w.heap.size w w' → Calls Tryd.prog 97 #[.int .i64 y, .int .i64 m, .int .i64 d] w' fun e w'' => e = .returned (.tuple #[.int .i64 n, .int .i64 0]) ∧ w'' = w') := by
    intro n y m d h w' hb
    have := day_any y m d w' (he.up hb)
    rw [dayQ_of h] at this
    exact this
  have HL : Hid (∀ y m : Int, ∀ w', Below w.heap.size w w' → Calls Tryd.prog 98 #[.int .i64 y, .int .i64 m] w' fun e w'' => e = .returned (.tuple #[.int .i64 (daysP y m).1, .int .i64 (daysP y m).2]) ∧ w'' = w') := fun y m w' hb => days_any y m w' (he.up hb)
  have b0 := hid (blk_new w (.cells #[.int .u64 (r.mi : Int), .int .u64 (r.ho : Int), .int .u64 (r.da : Int), .int .u64 (r.mo : Int), .int .u64 (r.we : Int), .bool r.ad, .bool r.aw] 117))
  have hb0 := hid (up_alloc w (.cells #[.int .u64 (r.mi : Int), .int .u64 (r.ho : Int), .int .u64 (r.da : Int), .int .u64 (r.mo : Int), .int .u64 (r.we : Int), .bool r.ad, .bool r.aw] 117))
  have HCK := hid hc
  clear he hr sm st hc
  rw [ruV_form] at HM
  rw [ruV_form]
  generalize (dateQ s).1 = Y0 at *
  generalize (dateQ s).2.1 = M0 at *
  generalize (dateQ s).2.2.1 = D0 at *
  generalize (dateQ s).2.2.2 = C0 at *
  go_enter Tryd.func82, Tryd.ntmps82
  go_wp2_with fail
  refine (HD.out _ hb0.out).mono ?_
  rintro e w1 ⟨rfl, rfl⟩
  go_wp2_with fail
  clear HD
  generalize hWW : World.alloc w _ = W2 at *
  clear hWW
  go_loopw [6, 7, 8, 9] (fun yy mm dd cc wr => ∃ y m d c : Int, yy = .int .i64 y ∧ mm = .int .i64 m ∧ dd = .int .i64 d ∧ cc = .int .i64 c ∧ (c = 0 ∨ c = 4) ∧ 0 ≤ y ∧ y ≤ 3000 ∧ 0 ≤ m ∧ m ≤ 12 ∧ Hid (DfAt r s y m d c) ∧ Hid (Below W2.heap.size W2 wr)) (fun yy mm _ _ _ => (36013 - (12 * intOf yy + intOf mm)).toNat)
  case atStart => exact ⟨Y0, M0, D0, C0, rfl, rfl, rfl, rfl, by rcases ST.out with h | h; exact .inl h.1; exact .inr h.1, g0, by omega, g2, g3, ST, Below.refl _ _⟩
  case round =>
    obtain ⟨y, m, d, c, rfl, rfl, rfl, rfl, hcc, y0, y1, m0, m1, HF, HB⟩ := hrel
    have UB := hid (up_trans hb0.out HB.out)
    rcases hcc with rfl | rfl
    · rcases HF.out with ⟨-, n, hd, hs, hn⟩ | ⟨q, -⟩
      · have ND := hid (df_next hd hs hn)
        have hM0 := hd.m0
        have hY1 := hd.y1
        have DF : Hid (∀ k, n ≤ k → k ≤ n + (lenM y m - d) → dayAt r k = (r.mo.testBit m.toNat && fitAt r k (d + (k - n)))) := fun k h1 h2 => by
          have D2 := hd.on (j := k - n) (by have := hd.d0; omega) (by omega)
          rw [show n + (k - n) = k by omega] at D2
          exact day_fit HCK.out D2
        have X3 := ((HE.out.up UB.out).hi 3 12 rfl)
        have X3' := hid X3
        have kk := blk_up b0.out HB.out
        have x0 := blk_cell kk 0 _ rfl
        have x1 := blk_cell kk 1 _ rfl
        have x2 := blk_cell kk 2 _ rfl
        have x3 := blk_cell kk 3 _ rfl
        have x4 := blk_cell kk 4 _ rfl
        have x5 := blk_cell kk 5 _ rfl
        have x6 := blk_cell kk 6 _ rfl
        clear kk
        have F1 := hid (HH.out m m0 m1)
        have FM := hid (HM.out n y m d hd)
        have HDA := hid hd
        have HNN := hid hn
        clear hd hn HF
        generalize hbit : r.mo.testBit m.toNat = bit at *
        clear hbit
        cases bit
        · have NO : Hid (∀ k, n ≤ k → k ≤ n + (lenM y m - d) → dayAt r k = false) := fun k h1 h2 => by rw [DF.out k h1 h2, Bool.false_and]
          obtain ⟨s1, s2⟩ := ND.out NO.out
          by_cases c12 : m < 12
          · have S1 := hid (s1 (by omega))
            have L1 := hid (HL.out y (m + 1) wr UB.out)
            clear s1 s2 ND DF NO
            have n12 : ¬ 12 < m + 1 := by omega
            generalize (daysP y (m + 1)).1 = dl at *
            generalize (daysP y (m + 1)).2 = c' at *
            go_wp2_with fail
            refine (F1.out _).mono ?_
            rintro e w4 ⟨rfl, rfl⟩
            go_wp2_with fail
            refine L1.out.mono ?_
            rintro e w4 ⟨rfl, rfl⟩
            go_wp2_with fail
            exact ⟨⟨y, m + 1, 1, c', rfl, by go_num, rfl, rfl, by rcases S1.out with h | h; exact .inl h.1; exact .inr h.1, y0, y1, by omega, by omega, S1, HB⟩, by simp [intOf]; omega⟩
          · have S1 := hid (s2 (by omega))
            have L1 := hid (HL.out (y + 1) 1 wr UB.out)
            clear s1 s2 ND DF NO
            have n12 : 12 < m + 1 := by omega
            generalize (daysP (y + 1) 1).1 = dl at *
            generalize (daysP (y + 1) 1).2 = c' at *
            go_wp2_with fail
            refine (F1.out _).mono ?_
            rintro e w4 ⟨rfl, rfl⟩
            go_wp2_with fail
            refine L1.out.mono ?_
            rintro e w4 ⟨rfl, rfl⟩
            go_wp2_with fail
            exact ⟨⟨y + 1, 1, 1, c', by go_num, rfl, rfl, rfl, by rcases S1.out with h | h; exact .inl h.1; exact .inr h.1, by omega, by omega, by omega, by omega, S1, HB⟩, by simp [intOf]; omega⟩
        · go_wp2_with fail
          refine (F1.out _).mono ?_
          rintro e w4 ⟨rfl, rfl⟩
          go_wp2_with fail
          refine (FM.out _ UB.out).mono ?_
          rintro e w5 ⟨⟨x, b, rfl, hx⟩, hb5⟩
          have U5 := hid (up_trans UB.out hb5)
          have HB5 := hid (up_trans HB.out hb5)
          have Y3 := ((HE.out.up U5.out).hi 3 12 rfl)
          clear x0 x1 x2 x3 x4 x5 x6 X3 hb5
          cases b
          · have NO : Hid (∀ k, n ≤ k → k ≤ n + (lenM y m - d) → dayAt r k = false) := fun k h1 h2 => by
              rcases hx with ⟨q, -⟩ | ⟨-, hx⟩
              · cases q
              · have := hx (d + (k - n)) (by omega) (by omega)
                rw [show n + (d + (k - n) - d) = k by omega] at this
                rw [DF.out k h1 h2, this, Bool.and_false]
            clear hx
            obtain ⟨s1, s2⟩ := ND.out NO.out
            by_cases c12 : m < 12
            · have S1 := hid (s1 (by omega))
              have L1 := hid (HL.out y (m + 1) w5 U5.out)
              clear s1 s2 ND DF NO
              have n12 : ¬ 12 < m + 1 := by omega
              generalize (daysP y (m + 1)).1 = dl at *
              generalize (daysP y (m + 1)).2 = c' at *
              go_wp2_with fail
              refine L1.out.mono ?_
              rintro e w4 ⟨rfl, rfl⟩
              go_wp2_with fail
              exact ⟨⟨y, m + 1, 1, c', rfl, by go_num, rfl, rfl, by rcases S1.out with h | h; exact .inl h.1; exact .inr h.1, y0, y1, by omega, by omega, S1, HB5⟩, by simp [intOf]; omega⟩
            · have S1 := hid (s2 (by omega))
              have L1 := hid (HL.out (y + 1) 1 w5 U5.out)
              clear s1 s2 ND DF NO
              have n12 : 12 < m + 1 := by omega
              generalize (daysP (y + 1) 1).1 = dl at *
              generalize (daysP (y + 1) 1).2 = c' at *
              go_wp2_with fail
              refine L1.out.mono ?_
              rintro e w4 ⟨rfl, rfl⟩
              go_wp2_with fail
              exact ⟨⟨y + 1, 1, 1, c', by go_num, rfl, rfl, rfl, by rcases S1.out with h | h; exact .inl h.1; exact .inr h.1, by omega, by omega, by omega, by omega, S1, HB5⟩, by simp [intOf]; omega⟩
          · have hx : d ≤ x ∧ x ≤ lenM y m ∧ fitAt r (n + (x - d)) x = true ∧ ∀ k, d ≤ k → k < x → fitAt r (n + (k - d)) k = false := by
              rcases hx with ⟨-, hx⟩ | ⟨q, -⟩
              · exact hx
              · cases q
            obtain ⟨x0, x1, x2, x3⟩ := hx
            have D3 := HDA.out.on (j := x - d) (by have := HDA.out.d0; omega) (by omega)
            rw [show d + (x - d) = x by omega] at D3
            have Y1 := hid (HY.out _ _ _ _ D3 w5 U5.out)
            have bd := D3.bounds
            have FIN : Hid (DayE r s (.returned (.tuple #[.int .i64 (n + (x - d)), .bool true]))) := by
              refine ⟨_, _, rfl, .inl ⟨rfl, by omega, bd.2, ?_, fun k h1 h2 => ?_⟩⟩
              · rw [DF.out _ (by omega) (by omega), show d + (n + (x - d) - n) = x by omega, x2]
                rfl
              · by_cases q : k < n
                · exact HNN.out k h1 q
                · have := x3 (d + (k - n)) (by omega) (by omega)
                  rw [show n + (d + (k - n) - d) = k by omega] at this
                  rw [DF.out k (by omega) (by omega), this, Bool.and_false]
            clear D3 x2 x3 ND DF bd
            go_wp2_with fail
            refine Y1.out.mono ?_
            rintro e w4 ⟨rfl, rfl⟩
            go_wp2_with fail
            go_ret2
            exact ⟨FIN.out, U5.out⟩
      · cases q
    · have FIN : Hid (DayE r s (.returned (.tuple #[.int .i64 0, .bool false]))) := by
        rcases HF.out with ⟨q, -⟩ | ⟨-, h⟩
        · cases q
        · exact ⟨_, _, rfl, .inr ⟨rfl, h⟩⟩
      go_wp2_with fail
      go_ret2
      exact ⟨FIN.out, UB.out⟩
end Go.Proofs.YtpjmieiajhhbaaaDoor
