/- The texts HRfp, HLaw, ELaw, LOf, R3, in this order. -/
import Derived.Test.YtnchjlimkgbfpaaDoorG11
import Derived.Test.YtnchjlimkgbfpaaDoorG04
import Derived.Test.YtnchjlimkgbfpaaDoorG07
import Derived.Deep.RegionHeld3
import Derived.Test.YtnchjlimkgbfpaaDoorG10

/- The document's Parse: for any text it says what 'parseN' says. -/
namespace Go.Proofs.YtnchjlimkgbfpaaDoor
open Go.RowKit
set_option linter.unusedVariables false
set_option linter.unusedSimpArgs false

theorem parse_short {s : List Int} (h : s.length < 2 ∨ 11 < s.length) : parseN s = none := by
  cases s with
  | nil => rfl
  | cons k l =>
    unfold parseN
    simp only
    rw [if_neg]
    intro q
    rcases h with h | h
    · have := q.2.1
      cases l with
      | nil => exact this rfl
      | cons a b => simp only [List.length_cons] at h; omega
    · have := q.2.2.1
      simp at h
      omega
theorem parse_dig {k : Int} {l : List Int} (j : Nat) (hj : j < l.length) (h : isDig (l.getD j 0) = false) : parseN (k :: l) = none := by
  unfold parseN
  simp only
  rw [if_neg]
  intro q
  have := List.all_eq_true.1 q.2.2.2.1 (l.getD j 0) (by simp [List.getD, hj])
  rw [this] at h
  cases h
theorem parse_all {k : Int} {l : List Int} (h1 : l ≠ []) (h2 : l.length ≤ 10) (h3 : l.all isDig = true) : parseN (k :: l) = if kindOk k = true ∧ idOk (valF l 0) = true ∧ digs (valF l 0).toNat = l then some (k, valF l 0) else none := by
  unfold parseN
  simp only
  by_cases c : kindOk k = true ∧ idOk (valF l 0) = true ∧ digs (valF l 0).toNat = l
  · rw [if_pos c, if_pos ⟨c.1, h1, h2, h3, c.2⟩]
  · rw [if_neg c, if_neg (fun q => c ⟨q.1, q.2.2.2.2⟩)]
theorem refNameX (k id : Int) (s : ByteArray) (n : Int) (h : (strOfNums (nameN k id).1, (nameN k id).2) = (s, n)) (hk : 0 ≤ k ∧ k ≤ 255) (w : World) : Calls Tryd.prog 6 #[.int .u8 k, .int .i64 id] w fun e w' => e = .returned (.tuple #[.string s, .int .i64 n]) ∧ Below w.heap.size w w' := by
  injection h with h1 h2
  rw [← h1, ← h2]
  exact refName_any k id hk w
theorem val_take {l : List Int} {j : Nat} (hj : j < l.length) : valF (l.take (j + 1)) 0 = 10 * valF (l.take j) 0 + (l.getD j 0 - 48) := by
  rw [take_snoc l j 0 hj, valF_append]
  rfl
set_option maxHeartbeats 2000000 in
set_option maxRecDepth 20000 in
theorem refParse_any (s : List Int) (hs : ∀ x ∈ s, 0 ≤ x ∧ x ≤ 255) (hm : s.length ≤ 140737488355328) (w : World) : Calls Tryd.prog 8 #[.string (strOfNums s)] w fun e w' => e = .returned (parR (parseN s)) ∧ Below w.heap.size w w' := by
  have HB : Hid (Below w.heap.size w w) := Below.refl _ _
  have e2 : parR none = .tuple #[.int .u8 0, .int .i64 0, .bool false] := rfl
  have hsz := str_size s
  by_cases c : s.length < 2 ∨ 11 < s.length
  · rw [parse_short c, e2]
    rcases c with c | c
    · have q1 : (((strOfNums s).size : Nat) : Int) < 2 := by omega
      have q1b : (strOfNums s).size < 2 := by omega
      clear hs hm c hsz e2
      generalize strOfNums s = S at *
      go_enter Tryd.func8, Tryd.ntmps8
      go_wp2_with fail
      go_ret3
      exact ⟨rfl, HB.out⟩
    · have q1 : ¬ (((strOfNums s).size : Nat) : Int) < 2 := by omega
      have q1b : ¬ (strOfNums s).size < 2 := by omega
      have q2 : 11 < (((strOfNums s).size : Nat) : Int) := by omega
      have q2b : 11 < (strOfNums s).size := by omega
      clear hs hm c hsz e2
      generalize strOfNums s = S at *
      go_enter Tryd.func8, Tryd.ntmps8
      go_wp2_with fail
      go_ret3
      exact ⟨rfl, HB.out⟩
  · cases s with
    | nil => exact absurd (Or.inl (by decide)) c
    | cons k l =>
      have hl1 : 1 ≤ l.length := by simp at c; omega
      have hl2 : l.length ≤ 10 := by simp at c; omega
      have hsz2 : (strOfNums (k :: l)).size = l.length + 1 := by rw [hsz]; rfl
      have h0 : 0 < (strOfNums (k :: l)).size := by omega
      have hat := str_at (k :: l) hs 0 h0
      rw [show (k :: l).getD 0 0 = k from rfl] at hat
      have hk := hs k List.mem_cons_self
      have HAt : Hid (∀ j : Nat, j < l.length → ∃ h : j + 1 < (strOfNums (k :: l)).size, (((strOfNums (k :: l))[j + 1]'h).toNat : Int) = l.getD j 0) := by
        intro j hj
        exact ⟨by omega, by have := str_at (k :: l) hs (j + 1) (by omega); simpa using this⟩
      have HN : Hid (∀ (id : Int) s n, (strOfNums (nameN k id).1, (nameN k id).2) = (s, n) → ∀ w', Calls Tryd.prog 6 #[.int .u8 k, .int .i64 id] w' fun e w'' => e = .returned (.tuple #[.string s, .int .i64 n]) ∧ Below w'.heap.size w' w'') := fun id s n h w' => refNameX k id s n h hk w'
      have HOct : Hid (∀ x ∈ l, 0 ≤ x ∧ x ≤ 255) := fun x hx => hs x (List.mem_cons_of_mem _ hx)
      have HOct2 : Hid (∀ x ∈ k :: l, 0 ≤ x ∧ x ≤ 255) := hs
      have q1 : ¬ (((l.length + 1 : Nat) : Nat) : Int) < 2 := by omega
      have q2 : ¬ 11 < (((l.length + 1 : Nat) : Nat) : Int) := by omega
      have HV0 : Hid ((0 : Int) = valF (l.take 0) 0 ∧ ∀ x ∈ l.take 0, isDig x = true) := ⟨rfl, by simp⟩
      clear hs hm c hsz
      have HE2 := hid e2
      clear e2
      go_enter Tryd.func8, Tryd.ntmps8
      go_wp2_with fail
      go_loopw [5, 6] (fun nn i wr => ∃ (j : Nat) (n : Int), j ≤ l.length ∧ nn = .int .i64 n ∧ i = .int .i64 ((j + 1 : Nat) : Int) ∧ Hid (n = valF (l.take j) 0 ∧ ∀ x ∈ l.take j, isDig x = true) ∧ wr = w) (fun _ i _ => l.length + 1 - (intOf i).toNat)
      case atStart => exact ⟨0, 0, Nat.zero_le _, rfl, rfl, HV0, rfl⟩
      case round =>
        obtain ⟨j, n, hj, rfl, rfl, HV, rfl⟩ := hrel
        rcases Nat.lt_or_ge j l.length with hjl | hjl
        · obtain ⟨hix, hiy⟩ := HAt.out j hjl
          obtain ⟨y, hye⟩ : ∃ y, y = l.getD j 0 := ⟨_, rfl⟩
          rw [← hye] at hiy
          have hyb : 0 ≤ y ∧ y ≤ 255 := by rw [hye]; exact HOct.out _ (by simp [List.getD, hjl])
          have HY := hid hye
          clear hye
          have t1 : (((j + 1 : Nat) : Nat) : Int) < ((l.length + 1 : Nat) : Int) := by omega
          have t1b : j + 1 < l.length + 1 := by omega
          by_cases c1 : isDig y = true
          · have hd := isDig_iff.1 c1
            have hd1 := hd.1
            have hd2 := hd.2
            have hvb := val_bound (l.take j) 0 0 HV.out.2 (Int.le_refl _) (by decide)
            have hn : 0 ≤ n ∧ n < 10000000000 := by
              rw [HV.out.1]
              refine ⟨hvb.1, Int.lt_of_lt_of_le hvb.2 ?_⟩
              have hjt : (l.take j).length ≤ 9 := by rw [List.length_take]; omega
              have : (10 : Int) ^ (0 + (l.take j).length) ≤ 10 ^ 10 := by
                have h9 : (l.take j).length = 0 ∨ (l.take j).length = 1 ∨ (l.take j).length = 2 ∨ (l.take j).length = 3 ∨ (l.take j).length = 4 ∨ (l.take j).length = 5 ∨ (l.take j).length = 6 ∨ (l.take j).length = 7 ∨ (l.take j).length = 8 ∨ (l.take j).length = 9 := by omega
                rcases h9 with h | h | h | h | h | h | h | h | h | h <;> rw [h] <;> decide
              exact Int.le_trans this (by decide)
            have hn1 := hn.1
            have hn2 := hn.2
            obtain ⟨d, hde⟩ : ∃ d, d = y - 48 := ⟨_, rfl⟩
            obtain ⟨m, hme⟩ : ∃ m, m = 10 * n + d := ⟨_, rfl⟩
            have HV2 : Hid (m = valF (l.take (j + 1)) 0 ∧ ∀ x ∈ l.take (j + 1), isDig x = true) := by
              refine ⟨by rw [val_take hjl, hme, hde, HV.out.1, HY.out], ?_⟩
              intro x hx
              rw [take_snoc l j 0 hjl, List.mem_append, List.mem_singleton] at hx
              rcases hx with hx | rfl
              · exact HV.out.2 x hx
              · rw [← HY.out]; exact c1
            have k1 : IntKind.u8.wrap (y - 48) = d := by
              rw [hde]
              simp [IntKind.wrap, IntKind.bits, IntKind.signed]
              omega
            have k2 : wrap64 (10 * n) = 10 * n := by unfold wrap64; omega
            have k3 : wrap64 (10 * n + d) = m := by unfold wrap64; omega
            have k5 : wrap64 d = d := by unfold wrap64; omega
            clear HV hvb hn hde hme HN hd
            go_wp2_with fail
            refine ⟨⟨j + 1, m, hjl, ?_, ?_, HV2, trivial⟩, ?_⟩
            · rw [k3]
            · congr 1
            · have e1 : (intOf (Value.int IntKind.i64 ((j : Int) + 1 + 1))).toNat = j + 2 := by simp [intOf]; omega
              have e2 : (intOf (Value.int IntKind.i64 ((j + 1 : Nat) : Int))).toNat = j + 1 := by simp [intOf]
              rw [e1, e2]
              omega
          · have c1' : isDig y = false := by simpa using c1
            have HR : Hid (parseN (k :: l) = none) := parse_dig j hjl (by rw [← HY.out]; exact c1')
            clear HV HN c1
            have c2 : y < 48 ∨ 57 < y := by
              simp only [isDig, Bool.and_eq_false_iff, decide_eq_false_iff_not] at c1'
              omega
            clear c1'
            rcases c2 with c2 | c2
            · go_wp2_with fail
              go_ret3
              rw [HR.out, HE2.out]
              exact ⟨rfl, HB.out⟩
            · have c3 : ¬ y < 48 := by omega
              go_wp2_with fail
              go_ret3
              rw [HR.out, HE2.out]
              exact ⟨rfl, HB.out⟩
        · have hje : j = l.length := by omega
          subst hje
          rw [List.take_length] at HV
          have HP : Hid (parseN (k :: l) = if kindOk k = true ∧ idOk n = true ∧ digs n.toNat = l then some (k, n) else none) := by
            unfold Hid
            rw [HV.out.1]
            exact parse_all (by intro q; rw [q] at hl1; simp at hl1) hl2 (List.all_eq_true.2 HV.out.2)
          have t1 : ¬ (((l.length + 1 : Nat) : Nat) : Int) < ((l.length + 1 : Nat) : Int) := by omega
          clear HV HAt hjl hj
          by_cases c1 : kindOk k = true
          · by_cases c2 : idOk n = true
            · have e1 : nameN k n = (k :: digs n.toNat, 0) := by unfold nameN; rw [c1, c2]; rfl
              by_cases c3 : digs n.toNat = l
              · have HN2 := hid (HN.out n (strOfNums (k :: l)) 0 (by rw [e1, c3]))
                have HR : Hid (parR (parseN (k :: l)) = .tuple #[.int .u8 k, .int .i64 n, .bool true]) := by unfold Hid; rw [HP.out, if_pos ⟨c1, c2, c3⟩]; rfl
                clear HP HN c1 c2 c3 e1 HOct HOct2
                go_wp2_with fail
                refine (HN2.out _).mono ?_
                rintro e w2 ⟨rfl, hb2⟩
                go_wp2_with fail
                go_ret3
                rw [HR.out]
                exact ⟨rfl, hb2⟩
              · have hq1 : ¬ (strOfNums (k :: digs n.toNat)).toList = (strOfNums (k :: l)).toList := by
                  intro q
                  have h := str_eq (k :: digs n.toNat) (k :: l) (fun x hx => by rcases List.mem_cons.1 hx with rfl | hx; exact hk; exact digs_oct _ x hx) HOct2.out
                  rw [q] at h
                  simp only [BEq.rfl] at h
                  have := of_decide_eq_true h.symm
                  injection this with _ this
                  exact c3 this
                have HN2 := hid (HN.out n (strOfNums (k :: digs n.toNat)) 0 (by rw [e1]))
                have HR : Hid (parR (parseN (k :: l)) = .tuple #[.int .u8 0, .int .i64 0, .bool false]) := by unfold Hid; rw [HP.out, if_neg (fun q => c3 q.2.2)]; rfl
                clear HP HN c1 c2 c3 e1 HOct HOct2
                generalize strOfNums (k :: digs n.toNat) = S3 at *
                have hq2 : (S3.toList == (strOfNums (k :: l)).toList) = false := by simpa using hq1
                have hq3 : (S3.toList != (strOfNums (k :: l)).toList) = true := by simpa using hq1
                go_wp2_with fail
                refine (HN2.out _).mono ?_
                rintro e w2 ⟨rfl, hb2⟩
                go_wp2_with fail
                go_ret3
                rw [HR.out]
                exact ⟨rfl, hb2⟩
            · have e1 : nameN k n = ([], 4) := by unfold nameN; rw [c1, (by simpa using c2 : idOk n = false)]; rfl
              have HN2 := hid (HN.out n { data := #[] } 4 (by rw [e1]; rfl))
              have HR : Hid (parR (parseN (k :: l)) = .tuple #[.int .u8 0, .int .i64 0, .bool false]) := by unfold Hid; rw [HP.out, if_neg (fun q => c2 q.2.1)]; rfl
              clear HP HN c1 c2 e1 HOct HOct2
              go_wp2_with fail
              refine (HN2.out _).mono ?_
              rintro e w2 ⟨rfl, hb2⟩
              go_wp2_with fail
              go_ret3
              rw [HR.out]
              exact ⟨rfl, hb2⟩
          · have e1 : nameN k n = ([], 22) := by unfold nameN; rw [(by simpa using c1 : kindOk k = false)]; rfl
            have HN2 := hid (HN.out n { data := #[] } 22 (by rw [e1]; rfl))
            have HR : Hid (parR (parseN (k :: l)) = .tuple #[.int .u8 0, .int .i64 0, .bool false]) := by unfold Hid; rw [HP.out, if_neg (fun q => c1 q.1)]; rfl
            clear HP HN c1 e1 HOct HOct2
            go_wp2_with fail
            refine (HN2.out _).mono ?_
            rintro e w2 ⟨rfl, hb2⟩
            go_wp2_with fail
            go_ret3
            rw [HR.out]
            exact ⟨rfl, hb2⟩
end Go.Proofs.YtnchjlimkgbfpaaDoor

/- The page's example, and the walk of the statement on names. -/
namespace Go.Proofs.YtnchjlimkgbfpaaDoor
open Go.RowKit
set_option linter.unusedVariables false
set_option linter.unusedSimpArgs false

theorem num_any (x : Int) (w : World) : Calls Tryd.prog 9 #[.int .i64 x] w fun e w' => e = .returned (.int .i64 x) ∧ w' = w := by
  go_enter Tryd.func9, Tryd.ntmps9
  go_wp2
  go_ret
  exact ⟨rfl, rfl⟩
theorem digs12 : digs 12 = [49, 50] := by
  rw [digs_pos (by decide), digs_pos (by decide)]
  simp [digs_zero]
theorem name12 : nameN 116 12 = ([116, 49, 50], 0) := by
  have : nameN 116 12 = (116 :: digs 12, 0) := rfl
  rw [this, digs12]
theorem parse12 : parseN [116, 49, 50] = some (116, 12) := by
  have := parse_name (k := 116) (id := 12) rfl rfl
  rw [show (12 : Int).toNat = 12 from rfl, digs12] at this
  exact this
theorem parse012 : parseN [116, 48, 49, 50] = none := by
  rw [parse_first, if_neg]
  intro q
  have := q.2.2.1.1
  omega
set_option maxHeartbeats 1000000 in
set_option maxRecDepth 20000 in
theorem alive_any (w : World) (he : EnvL w) : Calls Tryd.prog 10 #[] w fun e w' => e = .returned (.bool true) ∧ Below w.heap.size w w' := by
  have H1 := hid (nameX 116 12 { data := #[116, 49, 50] } 0 (by rw [name12]; rfl) (by omega) w he.1)
  have H2 : Hid (∀ w', Below w.heap.size w w' → Calls Tryd.prog 7 #[.string { data := #[116, 48, 49, 50] }] w' fun e w'' => e = .returned (.tuple #[.int .u8 0, .int .i64 0, .bool false]) ∧ Below w'.heap.size w' w'') := by
    intro w' hb
    have := parse_any [116, 48, 49, 50] (by simp) (by simp) w' (he.up hb)
    rw [parse012] at this
    exact this
  have H3 : Hid (∀ w', Below w.heap.size w w' → Calls Tryd.prog 7 #[.string { data := #[116, 49, 50] }] w' fun e w'' => e = .returned (.tuple #[.int .u8 116, .int .i64 12, .bool true]) ∧ Below w'.heap.size w' w'') := by
    intro w' hb
    have := parse_any [116, 49, 50] (by simp) (by simp) w' (he.up hb)
    rw [parse12] at this
    exact this
  clear he
  go_enter Tryd.func10, Tryd.ntmps10
  go_wp2_with fail
  refine H1.out.mono ?_
  rintro e w1 ⟨rfl, hb1⟩
  go_wp2_with fail
  refine (H2.out w1 hb1).mono ?_
  rintro e w2 ⟨rfl, hb2⟩
  have hb2 := up_trans hb1 hb2
  go_wp2_with fail
  refine (H3.out w2 hb2).mono ?_
  rintro e w3 ⟨rfl, hb3⟩
  have hb3 := up_trans hb2 hb3
  go_wp2_with fail
  refine (num_any _ _).mono ?_
  rintro e w4 ⟨rfl, rfl⟩
  go_wp2_with fail
  go_ret
  exact ⟨rfl, hb3⟩
theorem parR_form (o : Option (Int × Int)) : ∃ (k n : Int) (b : Bool), parR o = .tuple #[.int .u8 k, .int .i64 n, .bool b] := by
  cases o with
  | none => exact ⟨0, 0, false, rfl⟩
  | some q => exact ⟨q.1, q.2, true, rfl⟩
set_option maxHeartbeats 2000000 in
set_option maxRecDepth 20000 in
theorem names_walk (k id : Int) (s : List Int) (hk : 0 ≤ k ∧ k ≤ 255) (hs : ∀ x ∈ s, 0 ≤ x ∧ x ≤ 255) (hm : s.length ≤ 140737488355328) (w : World) (he : EnvL w) : Calls Tryd.prog 3 #[.int .u8 k, .int .i64 id, .string (strOfNums s)] w fun e w' => e = .returned (.bool true) ∧ Below w.heap.size w w' := by
  obtain ⟨pk, pn, pb, hp⟩ := parR_form (parseN s)
  obtain ⟨S, hS⟩ : ∃ S, S = strOfNums (nameN k id).1 := ⟨_, rfl⟩
  obtain ⟨f, hf⟩ : ∃ f, f = (nameN k id).2 := ⟨_, rfl⟩
  have H1 := hid (nameX k id S f (by rw [hS, hf]) hk w he.1)
  have H2 : Hid (∀ w', Calls Tryd.prog 6 #[.int .u8 k, .int .i64 id] w' fun e w'' => e = .returned (.tuple #[.string S, .int .i64 f]) ∧ Below w'.heap.size w' w'') := fun w' => refNameX k id S f (by rw [hS, hf]) hk w'
  have H3 : Hid (∀ w', Below w.heap.size w w' → Calls Tryd.prog 7 #[.string (strOfNums s)] w' fun e w'' => e = .returned (.tuple #[.int .u8 pk, .int .i64 pn, .bool pb]) ∧ Below w'.heap.size w' w'') := by
    intro w' hb
    have := parse_any s hs hm w' (he.up hb)
    rw [hp] at this
    exact this
  have H4 : Hid (∀ w', Calls Tryd.prog 8 #[.string (strOfNums s)] w' fun e w'' => e = .returned (.tuple #[.int .u8 pk, .int .i64 pn, .bool pb]) ∧ Below w'.heap.size w' w'') := by
    intro w'
    have := refParse_any s hs hm w'
    rw [hp] at this
    exact this
  have H5 : Hid (f = 0 → ∀ w', Below w.heap.size w w' → Calls Tryd.prog 7 #[.string S] w' fun e w'' => e = .returned (.tuple #[.int .u8 k, .int .i64 id, .bool true]) ∧ Below w'.heap.size w' w'') := by
    intro h0 w' hb
    by_cases h1 : kindOk k = true
    · by_cases h2 : idOk id = true
      · have e1 : nameN k id = (k :: digs id.toNat, 0) := by unfold nameN; rw [h1, h2]; rfl
        have h3 : 1 ≤ id ∧ id ≤ 2147483647 := by simpa [idOk] using h2
        have hl := digs_len 10 id.toNat (by omega)
        have := parse_any (k :: digs id.toNat) (fun x hx => by rcases List.mem_cons.1 hx with rfl | hx; exact hk; exact digs_oct _ x hx) (by simp only [List.length_cons]; omega) w' (he.up hb)
        rw [parse_name h1 h2] at this
        rw [hS, e1]
        exact this
      · have e1 : nameN k id = ([], 4) := by unfold nameN; rw [h1, (by simpa using h2 : idOk id = false)]; rfl
        rw [e1] at hf
        subst hf
        cases h0
    · have e1 : nameN k id = ([], 22) := by unfold nameN; rw [(by simpa using h1 : kindOk k = false)]; rfl
      rw [e1] at hf
      subst hf
      cases h0
  have H6 : Hid (∀ w', Below w.heap.size w w' → Calls Tryd.prog 10 #[] w' fun e w'' => e = .returned (.bool true) ∧ Below w'.heap.size w' w'') := fun w' hb => alive_any w' (he.up hb)
  clear hf hS hs hm he hp
  generalize strOfNums s = T at *
  by_cases c : f = 0
  · have H7 := hid (H5.out c)
    subst c
    go_enter Tryd.func3, Tryd.ntmps3
    go_wp2_with fail
    refine H1.out.mono ?_
    rintro e w1 ⟨rfl, hb1⟩
    go_wp2_with fail
    refine (H2.out w1).mono ?_
    rintro e w2 ⟨rfl, hb2⟩
    have hb2 := up_trans hb1 hb2
    go_wp2_with fail
    refine (H3.out w2 hb2).mono ?_
    rintro e w3 ⟨rfl, hb3⟩
    have hb3 := up_trans hb2 hb3
    go_wp2_with fail
    refine (H4.out w3).mono ?_
    rintro e w4 ⟨rfl, hb4⟩
    have hb4 := up_trans hb3 hb4
    go_wp2_with fail
    refine (num_any _ _).mono ?_
    rintro e w5 ⟨rfl, rfl⟩
    go_wp2_with fail
    refine (H7.out w5 hb4).mono ?_
    rintro e w6 ⟨rfl, hb6⟩
    have hb6 := up_trans hb4 hb6
    go_wp2_with fail
    refine (H6.out w6 hb6).mono ?_
    rintro e w7 ⟨rfl, hb7⟩
    have hb7 := up_trans hb6 hb7
    go_wp2_with fail
    go_ret
    exact ⟨rfl, hb7⟩
  · have cb : (f == 0) = false := by simpa using c
    clear H5
    go_enter Tryd.func3, Tryd.ntmps3
    go_wp2_with fail
    refine H1.out.mono ?_
    rintro e w1 ⟨rfl, hb1⟩
    go_wp2_with fail
    refine (H2.out w1).mono ?_
    rintro e w2 ⟨rfl, hb2⟩
    have hb2 := up_trans hb1 hb2
    go_wp2_with fail
    refine (H3.out w2 hb2).mono ?_
    rintro e w3 ⟨rfl, hb3⟩
    have hb3 := up_trans hb2 hb3
    go_wp2_with fail
    refine (H4.out w3).mono ?_
    rintro e w4 ⟨rfl, hb4⟩
    have hb4 := up_trans hb3 hb4
    go_wp2_with fail
    refine (num_any _ _).mono ?_
    rintro e w5 ⟨rfl, rfl⟩
    go_wp2_with fail
    refine (H6.out w5 hb4).mono ?_
    rintro e w7 ⟨rfl, hb7⟩
    have hb7 := up_trans hb4 hb7
    go_wp2_with fail
    go_ret
    exact ⟨rfl, hb7⟩
end Go.Proofs.YtnchjlimkgbfpaaDoor

/- The law's own leaves of layer 11: metas copied and held against each other. -/
namespace Go.Proofs.YtnchjlimkgbfpaaDoor
open Go.RowKit
set_option linter.unusedVariables false
set_option linter.unusedSimpArgs false

theorem Tryd.info53 : (Tryd.prog.info? 53).map (fun i => (i.zero, i.size, i.bytes)) = some (some (.agg #[.int .i64 0, .int .i64 0, .int .i64 0, .string ⟨#[]⟩, .string ⟨#[]⟩]), 5, 56) := by kernel_rfl
theorem Tryd.info82 : (Tryd.prog.info? 82).map (fun i => (i.zero, i.size, i.bytes)) = some (some (.agg #[.int .i64 0, .int .i64 0, .int .i64 0, .string ⟨#[]⟩, .string ⟨#[]⟩]), 5, 56) := by kernel_rfl
theorem meRow_one (y : Me) : ∀ u ∈ meRow y, u.oneCell' = true := by
  intro u hu
  simp only [meRow, List.mem_cons, List.mem_nil_iff, or_false] at hu
  rcases hu with rfl | rfl | rfl | rfl | rfl <;> rfl
theorem meRow_len (y : Me) : (meRow y).length = 5 := rfl

set_option maxHeartbeats 2000000 in
set_option maxRecDepth 100000 in
theorem ofMetas_own (l : List Me) (v : Value) (w : World) (hv : MetsR w v l) (hl : l.length ≤ 4000000000000) :
    Calls Tryd.prog 24 #[v] w fun e w' => ∃ a c, e = .returned (.slice a l.length c) ∧ Hid (OwnR w' w.heap.size 82 5 (.slice a l.length c) (l.map meRow)) ∧ Hid (Below w.heap.size w w') := by
  have HV : Hid (MetsR w v l) := hv
  obtain ⟨a1, c1, rfl, g1, m1⟩ := hv.len
  have hl63 : l.length ≤ 9223372036854775807 := by unfold maxLen at m1; omega
  clear hv g1 m1
  go_enter Tryd.func24, Tryd.ntmps24
  go_wp2_with fail
  go_loopw [3, 4] (fun o i wr => ∃ (k : Nat) (ao : Option Addr) (co : Nat), k ≤ l.length ∧ i = .int .i64 k ∧ o = .slice ao k co ∧ Hid (OwnR wr w.heap.size 82 5 (.slice ao k co) ((l.take k).map meRow)) ∧ Hid (Below w.heap.size w wr)) (fun _ i _ => l.length - (intOf i).toNat)
  case atStart => exact ⟨0, none, 0, Nat.zero_le _, rfl, rfl, OwnR.nil _ _ _ _, Below.refl _ _⟩
  case round =>
    obtain ⟨k, ao, co, hk, rfl, rfl, HO, HB⟩ := hrel
    by_cases hlt : k < l.length
    · have hlt' : (k : Int) < (l.length : Int) := by omega
      obtain ⟨b, off, cap, x, e, hx, x0, x1, x2, x3, x4⟩ := (HV.out.up HB.out).at k hlt
      simp at e
      obtain ⟨rfl, rfl⟩ := e
      have HT : Hid ((l.take k).map meRow ++ [[.int .i64 x.id, .int .i64 x.lvl, .int .i64 x.cnt, .string x.low, .string x.high]] = (l.take (k + 1)).map meRow) := by
        unfold Hid; rw [List.take_add_one, hx, List.map_append]; rfl
      have HLT : Hid (((l.take k).map meRow).length = k) := by unfold Hid; rw [List.length_map, List.length_take]; omega
      have HC : Hid ((((l.take k).map meRow).length + 1 + (((l.take k).map meRow).length + 1) / 4 + 192) * 56 ≤ 281474976710656 ∧ ((l.take k).map meRow).length + 1 ≤ maxLen) := by
        unfold Hid; rw [HLT.out]; unfold maxLen; omega
      have HLT1 : Hid (((l.take (k + 1)).map meRow).length = k + 1) := by unfold Hid; rw [List.length_map, List.length_take]; omega
      have HO1 : Hid (∀ u ∈ ([.int .i64 x.id, .int .i64 x.lvl, .int .i64 x.cnt, .string x.low, .string x.high] : List Value), u.oneCell' = true) := meRow_one x
      have S0 : Hid (w.heap.size ≤ wr.heap.size) := HB.out.size
      clear hx
      generalize (l.take k).map meRow = T1 at *
      obtain ⟨T2, hT2⟩ : ∃ T2, (l.take (k + 1)).map meRow = T2 := ⟨_, rfl⟩
      rw [hT2] at HT HLT1
      have HT2 : Hid ((l.take (k + 1)).map meRow = T2) := hT2
      clear hT2
      go_wp2_with (at_builtin; refine wpList_append_row wr rfl _ _ 47 82 _ 5 56 rfl Tryd.underlying47 Tryd.info82 rfl (by decide) w.heap.size (.slice ao k co) T1 rfl HO.out [.int .i64 x.id, .int .i64 x.lvl, .int .i64 x.cnt, .string x.low, .string x.high] _ _ rfl rfl rfl rfl HO1.out HC.out.1 HC.out.2 S0.out ?_)
      intro v2 w2 O2 B2
      rw [HT.out] at O2
      have U2 : Hid (Below w.heap.size w w2) := HB.out.trans B2
      obtain ⟨a3, c3, e3, _, _⟩ := (Rws.own O2).len
      rw [HLT1.out] at e3
      subst e3
      have O3 : Hid (OwnR w2 w.heap.size 82 5 (.slice a3 (k + 1) c3) T2) := O2
      clear O2 B2 HO HT HLT HC HLT1
      go_wp2_with fail
      exact ⟨⟨k + 1, a3, c3, by omega, by go_num, rfl, by rw [HT2.out]; exact O3, U2⟩, by simp [intOf]; omega⟩
    · have hlt' : ¬ (k : Int) < (l.length : Int) := by omega
      obtain rfl : k = l.length := by omega
      rw [List.take_length] at HO
      go_wp2_with fail
      go_ret
      exact ⟨ao, co, rfl, HO, HB⟩
end Go.Proofs.YtnchjlimkgbfpaaDoor

/- The law's Of and OfEdit. -/
namespace Go.Proofs.YtnchjlimkgbfpaaDoor
open Go.RowKit
set_option linter.unusedVariables false
set_option linter.unusedSimpArgs false

theorem set3_blk {W : World} {N : Nat} {x y z : Value} {t : TypeId} (h : W.heap[N]? = some (.cells #[x, y, z] t)) (a b c : Value) : (((W.setCell ⟨N, 0, none⟩ a).setCell ⟨N, 1, none⟩ b).setCell ⟨N, 2, none⟩ c).heap[N]? = some (.cells #[a, b, c] t) :=
  blk_set (blk_set (blk_set h 0 a) 1 b) 2 c
theorem set3_grown (W : World) (N : Nat) (a b c : Value) : W.grownBy (((W.setCell ⟨N, 0, none⟩ a).setCell ⟨N, 1, none⟩ b).setCell ⟨N, 2, none⟩ c) (some N) :=
  grown_trans (grown_trans (grown_set W ⟨N, 0, none⟩ a) (grown_set _ ⟨N, 1, none⟩ b)) (grown_set _ ⟨N, 2, none⟩ c)
theorem results_ver1 {fn : Func} {t : TypeId} {p : Nat} (h : fn.results = #[.cell p t]) (hl : t = 49 ∨ t = 38) (tmps : Array Value) (w : World) {N : Nat} {a b c : Value} (ht : tmps.getD p undef = .pointer (some ⟨N, 0, none⟩))
    (hc : w.heap[N]? = some (.cells #[a, b, c] t)) : (results fn tmps).run Tryd.prog w = .ok (.agg #[a, b, c]) w := by
  have c0 := blk_cell hc 0 a rfl
  have c1 := blk_cell hc 1 b rfl
  have c2 := blk_cell hc 2 c rfl
  have ht' : tmps[p]?.getD undef = .pointer (some ⟨N, 0, none⟩) := by simpa using ht
  rcases hl with rfl | rfl
  · simp only [results, h]
    simp [ht', go_sem, c0, c1, c2]
  · simp only [results, h]
    simp [ht', go_sem, c0, c1, c2]
/-- A version, an edit, in memory of the call's own. -/
def VerO (w : World) (base : Nat) (a : Option Addr) (n c : Nat) (ts : List Me) : Prop := OwnR w base 82 5 (.slice a n c) (ts.map meRow)
theorem VerO.up {w w' : World} {base : Nat} {a : Option Addr} {n c : Nat} {ts : List Me} (h : VerO w base a n c ts) (hb : Below w.heap.size w w') : VerO w' base a n c ts := OwnR.up h hb
theorem VerO.read {w : World} {base : Nat} {a : Option Addr} {n c : Nat} {ts : List Me} (h : VerO w base a n c ts) : MetsR w (.slice a n c) ts := Rws.own h

set_option maxHeartbeats 4000000 in
set_option maxRecDepth 100000 in
theorem of_anyE (ts : List Me) (seq next : Int) (va : Option Addr) (vn vc : Nat) (w : World) (hv : MetsR w (.slice va vn vc) ts) (hl : ts.length ≤ 4000000000000) :
    Calls Tryd.prog 13 #[.agg #[.slice va vn vc, .int .i64 seq, .int .i64 next]] w fun e w' => ∃ a n c, e = .returned (.agg #[.slice a n c, .int .i64 seq, .int .i64 next]) ∧ Hid (VerO w' w.heap.size a n c ts) ∧ Hid (Below w.heap.size w w') := by
  have HV : Hid (MetsR w (.slice va vn vc) ts) := hv
  clear hv
  obtain ⟨w0, hw0⟩ : ∃ w0, w0 = (w.alloc (.cells #[.slice va vn vc, .int .i64 seq, .int .i64 next] 38)).alloc (.cells #[.slice none 0 0, .int .i64 0, .int .i64 0] 49) := ⟨_, rfl⟩
  have HW0 : Hid ((w.alloc (.cells #[.slice va vn vc, .int .i64 seq, .int .i64 next] 38)).alloc (.cells #[.slice none 0 0, .int .i64 0, .int .i64 0] 49) = w0) := hw0.symm
  have U0 : Hid (Below w.heap.size w w0) := by rw [hw0]; exact up_al (up_alloc _ _) _
  have B0 : Hid (w0.heap[w.heap.size]? = some (.cells #[.slice va vn vc, .int .i64 seq, .int .i64 next] 38)) := by rw [hw0]; exact blk_up (blk_new _ _) (up_alloc _ _)
  have B2 : Hid (w0.heap[w.heap.size + 1]? = some (.cells #[.slice none 0 0, .int .i64 0, .int .i64 0] 49)) := by
    rw [hw0]
    have := blk_new (w.alloc (.cells #[.slice va vn vc, .int .i64 seq, .int .i64 next] 38)) (.cells #[.slice none 0 0, .int .i64 0, .int .i64 0] 49)
    rw [show (w.alloc (.cells #[.slice va vn vc, .int .i64 seq, .int .i64 next] 38)).heap.size = w.heap.size + 1 by simp] at this
    exact this
  clear hw0
  have x0 := blk_cell B0.out 0 _ rfl
  have x1 := blk_cell B0.out 1 _ rfl
  have x2 := blk_cell B0.out 2 _ rfl
  go_enter Tryd.func13, Tryd.ntmps13
  go_upto_region 1 with fail
  rw [HW0.out]
  clear HW0
  generalize hN1 : w.heap.size + 1 = N1 at *
  have hn1 : ¬ N1 = w.heap.size := by omega
  have hn2 : ¬ w.heap.size = N1 := by omega
  have HN1 : Hid (w.heap.size ≤ N1) := by unfold Hid; omega
  clear hN1
  have HC : Hid (Calls Tryd.prog 24 #[.slice va vn vc] w0.drew fun e w' => ∃ a n c, e = .returned (.slice a n c) ∧ Hid (VerO w' w.heap.size a n c ts) ∧ w'.cell? ⟨w.heap.size, 0, none⟩ = some (.slice va vn vc) ∧ w'.cell? ⟨w.heap.size, 1, none⟩ = some (.int .i64 seq) ∧ w'.cell? ⟨w.heap.size, 2, none⟩ = some (.int .i64 next) ∧ Hid (w'.heap[N1]? = some (.cells #[.slice none 0 0, .int .i64 0, .int .i64 0] 49)) ∧ Hid (Below w.heap.size w w')) := by
    have u : Below w0.heap.size w0 w0.drew := up_dr (Below.refl _ _)
    refine (ofMetas_own ts _ w0.drew ((HV.out.up U0.out).up u) hl).mono ?_
    rintro e w' ⟨a, c, rfl, hO, hb⟩
    have u2 := up_trans u hb.out
    have b0 := blk_up B0.out u2
    exact ⟨a, _, c, rfl, hO.out.mono (by have := (up_trans U0.out u).size; exact this), blk_cell b0 0 _ rfl, blk_cell b0 1 _ rfl, blk_cell b0 2 _ rfl, blk_up B2.out u2, up_trans U0.out u2⟩
  go_region_held3 (fun w' => w'.cell? ⟨w.heap.size, 0, none⟩ = some (.slice va vn vc) ∧ w'.cell? ⟨w.heap.size, 1, none⟩ = some (.int .i64 seq) ∧ w'.cell? ⟨w.heap.size, 2, none⟩ = some (.int .i64 next)) (first | with_reducible exact ⟨x0, x1, x2⟩ | with_reducible exact ⟨z0, z1, z2⟩ | (simp [go_sem, x0, x1, x2]; done) | (simp [go_sem, z0, z1, z2, hn1, hn2]; done)) (first
    | (go_at_call 24; with_reducible refine HC.out.mono ?_; rintro e w3 ⟨a3, n3, c3, rfl, O3, z0, z1, z2, b3, u3⟩; have r0 := blk_cell b3.out 0 _ rfl; have r1 := blk_cell b3.out 1 _ rfl; have r2 := blk_cell b3.out 2 _ rfl; have f0 := blk_frozen b3.out 0; have f1 := blk_frozen b3.out 1; have f2 := blk_frozen b3.out 2))
  all_goals
    go_wp2_with fail
    refine bodyPost_ret (results_ver1 rfl (.inl rfl) _ _ rfl (set3_blk b3.out _ _ _)) rfl ?_
    refine ⟨a3, n3, c3, rfl, ?_, u3.out.trans (below_grown (set3_grown w3 N1 _ _ _) u3.out.size (fun k hk => by injection hk with hk; have := HN1.out; omega))⟩
    exact OwnR.far O3.out (set3_grown w3 N1 _ _ _) (own_blk_ne O3.out.2 b3.out (by decide))

end Go.Proofs.YtnchjlimkgbfpaaDoor

/- cut: what a crash leaves of a file. -/
namespace Go.Proofs.YtnchjlimkgbfpaaDoor
open Go.RowKit
set_option linter.unusedVariables false
set_option linter.unusedSimpArgs false

/-- How many octets are left. -/
def leftN (f : Int × List Int × Int) (more : Int) : Int := f.2.2 + min (max more 0) ((f.2.1.length : Int) - f.2.2)
def cutF (f : Int × List Int × Int) (more : Int) : Int × List Int × Int := (f.1, f.2.1.take (leftN f more).toNat, leftN f more)

theorem left_le (f : Int × List Int × Int) (more : Int) (h0 : 0 ≤ f.2.2) (h1 : f.2.2 ≤ (f.2.1.length : Int)) : f.2.2 ≤ leftN f more ∧ leftN f more ≤ (f.2.1.length : Int) := by
  unfold leftN
  omega

theorem own_take {w : World} {base : Nat} {e : TypeId} {sz g n cap : Nat} {css : List (List Value)} (h : OwnR w base e sz (.slice (some ⟨g, 0, none⟩) n cap) css) (k : Nat) (hk : k ≤ n) : OwnR w base e sz (.slice (some ⟨g, 0, none⟩) k cap) (css.take k) := by
  obtain ⟨cur, hh, hb, hn, hm, hs, ht, hl⟩ := h.blk
  have hf : k * sz + ([] : List Value).length ≤ cur.size := by
    rw [hs, List.length_nil, Nat.add_zero]
    exact Nat.mul_le_mul_right _ (by omega)
  refine h.firstOver k hk cur hh [] hf ?_
  rw [over_nil]
  simpa using hh

theorem OwnB.take {w : World} {base : Nat} {a : Option Addr} {n c : Nat} {l : List Int} (h : OwnB w base (.slice a n c) l) (k : Nat) (hk : k ≤ l.length) : OwnB w base (.slice a k c) (l.take k) := by
  have hn : l.length = n := by
    rcases h.2 with ⟨e, e2⟩ | ⟨g, cap, cur, e, _⟩
    · injection e with _ e3 _
      omega
    · injection e with _ e3 _
      exact e3.symm
  rcases h.2 with ⟨e, e2⟩ | ⟨g, cap, cur, e, _⟩
  · injection e with e1 e3 e4
    have hl : l = [] := List.length_eq_zero_iff.1 e2
    have hk0 : k = 0 := by omega
    subst hl
    subst hk0
    subst e1
    subst e4
    exact OwnB.nil _ _
  · injection e with e1 e3 e4
    subst e1
    have h2 := own_take h.rows k (by omega)
    rw [← List.map_take] at h2
    exact h2.octs

theorem cellset (w : World) (a : Addr) (u : Value) {v : Value} (h : w.cell? a = some v) : (w.setCell a u).cell? a = some u := World.cell?_setCell_same (h := h) ..
theorem frozenset (w : World) (g o : Nat) (b : Addr) (u : Value) : (w.setCell ⟨g, o, none⟩ u).frozen? b = w.frozen? b := World.frozen?_setCells g [u] o w b

end Go.Proofs.YtnchjlimkgbfpaaDoor
