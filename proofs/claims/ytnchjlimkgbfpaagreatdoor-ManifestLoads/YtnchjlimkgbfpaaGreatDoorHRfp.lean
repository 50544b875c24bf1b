
import Derived.Test.YtnchjlimkgbfpaaGreatDoorHRef
namespace Go.Proofs.YtnchjlimkgbfpaaGreatDoor
open Go.RowKit
set_option linter.unusedVariables false
set_option maxRecDepth 20000
set_option linter.unusedSimpArgs false
theorem parse_short {s : List Int} (h : s.length < 2 ∨ 11 < s.length) : parseN s = none := by
  cases s with
  | nil => rfl
  | cons k l =>
    unfold parseN
    simp only
    rw [if_neg]
    intro q
    rcases h with h | h
    · have := q.2.1
      cases l with
      | nil => exact this rfl
      | cons a b => simp only [List.length_cons] at h; omega
    · have := q.2.2.1
      simp at h
      omega
theorem parse_dig {k : Int} {l : List Int} (j : Nat) (hj : j < l.length) (h : isDig (l.getD j 0) = false) : parseN (k :: l) = none := by
  unfold parseN
  simp only
  rw [if_neg]
  intro q
  have := List.all_eq_true.1 q.2.2.2.1 (l.getD j 0) (by simp [List.getD, hj])
  rw [this] at h
  cases h
theorem parse_all {k : Int} {l : List Int} (h1 : l ≠ []) (h2 : l.length ≤ 10) (h3 : l.all isDig = true) : parseN (k :: l) = if kindOk k = true ∧ idOk (valF l 0) = true ∧ digs (valF l 0).toNat = l then some (k, valF l 0) else none := by
  unfold parseN
  simp only
  by_cases c : kindOk k = true ∧ idOk (valF l 0) = true ∧ digs (valF l 0).toNat = l
  · rw [if_pos c, if_pos ⟨c.1, h1, h2, h3, c.2⟩]
  · rw [if_neg c, if_neg (fun q => c ⟨q.1, q.2.2.2.2⟩)]
theorem refNameX (k id : Int) (s : ByteArray) (n : Int) (h : (strOfNums (nameN k id).1, (nameN k id).2) = (s, n)) (hk : 0 ≤ k ∧ k ≤ 255) (w : World) : Calls Tryz.prog 41 #[.int .u8 k, .int .i64 id] w fun e w' => e = .returned (.tuple #[.string s, .int .i64 n]) ∧ Below w.heap.size w w' := by
  injection h with h1 h2
  rw [← h1, ← h2]
  exact refName_any k id hk w
theorem val_take {l : List Int} {j : Nat} (hj : j < l.length) : valF (l.take (j + 1)) 0 = 10 * valF (l.take j) 0 + (l.getD j 0 - 48) := by
  rw [take_snoc l j 0 hj, valF_append]
  rfl
set_option maxHeartbeats 2000000 in
set_option maxRecDepth 20000 in
theorem refParse_any (s : List Int) (hs : ∀ x ∈ s, 0 ≤ x ∧ x ≤ 255) (hm : s.length ≤ 140737488355328) (w : World) : Calls Tryz.prog 62 #[.string (strOfNums s)] w fun e w' => e = .returned (parR (parseN s)) ∧ Below w.heap.size w w' := by
  have HB : Hid (Below w.heap.size w w) := Below.refl _ _
  have e2 : parR none = .tuple #[.int .u8 0, .int .i64 0, .bool false] := rfl
  have hsz := str_size s
  by_cases c : s.length < 2 ∨ 11 < s.length
  · rw [parse_short c, e2]
    rcases c with c | c
    · have q1 : (((strOfNums s).size : Nat) : Int) < 2 := by omega
      have q1b : (strOfNums s).size < 2 := by omega
      clear hs hm c hsz e2
      generalize strOfNums s = S at *
      go_enter Tryz.func62, Tryz.ntmps62
      go_wp2_with fail
      go_ret3
      exact ⟨rfl, HB.out⟩
    · have q1 : ¬ (((strOfNums s).size : Nat) : Int) < 2 := by omega
      have q1b : ¬ (strOfNums s).size < 2 := by omega
      have q2 : 11 < (((strOfNums s).size : Nat) : Int) := by omega
      have q2b : 11 < (strOfNums s).size := by omega
      clear hs hm c hsz e2
      generalize strOfNums s = S at *
      go_enter Tryz.func62, Tryz.ntmps62
      go_wp2_with fail
      go_ret3
      exact ⟨rfl, HB.out⟩
  · cases s with
    | nil => exact absurd (Or.inl (by decide)) c
    | cons k l =>
      have hl1 : 1 ≤ l.length := by simp at c; omega
      have hl2 : l.length ≤ 10 := by simp at c; omega
      have hsz2 : (strOfNums (k :: l)).size = l.length + 1 := by rw [hsz]; rfl
      have h0 : 0 < (strOfNums (k :: l)).size := by omega
      have hat := str_at (k :: l) hs 0 h0
      rw [show (k :: l).getD 0 0 = k from rfl] at hat
      have hk := hs k List.mem_cons_self
      have HAt : Hid (∀ j : Nat, j < l.length → ∃ h : j + 1 < (strOfNums (k :: l)).size, (((strOfNums (k :: l))[j + 1]'h).toNat : Int) = l.getD j 0) := by
        intro j hj
        exact ⟨by omega, by have := str_at (k :: l) hs (j + 1) (by omega); simpa using this⟩
      have HN : Hid (∀ (id : Int) s n, (strOfNums (nameN k id).1, (nameN k id).2) = (s, n) → ∀ w', Calls Tryz.prog 41 #[.int .u8 k, .int .i64 id] w' fun e w'' => e = .returned (.tuple #[.string s, .int .i64 n]) ∧ Below w'.heap.size w' w'') := fun id s n h w' => refNameX k id s n h hk w'
      have HOct : Hid (∀ x ∈ l, 0 ≤ x ∧ x ≤ 255) := fun x hx => hs x (List.mem_cons_of_mem _ hx)
      have HOct2 : Hid (∀ x ∈ k :: l, 0 ≤ x ∧ x ≤ 255) := hs
      have q1 : ¬ (((l.length + 1 : Nat) : Nat) : Int) < 2 := by omega
      have q2 : ¬ 11 < (((l.length + 1 : Nat) : Nat) : Int) := by omega
      have HV0 : Hid ((0 : Int) = valF (l.take 0) 0 ∧ ∀ x ∈ l.take 0, isDig x = true) := ⟨rfl, by simp⟩
      clear hs hm c hsz
      have HE2 := hid e2
      clear e2
      go_enter Tryz.func62, Tryz.ntmps62
      go_wp2_with fail
      go_loopw [5, 6] (fun nn i wr => ∃ (j : Nat) (n : Int), j ≤ l.length ∧ nn = .int .i64 n ∧ i = .int .i64 ((j + 1 : Nat) : Int) ∧ Hid (n = valF (l.take j) 0 ∧ ∀ x ∈ l.take j, isDig x = true) ∧ wr = w) (fun _ i _ => l.length + 1 - (intOf i).toNat)
      case atStart => exact ⟨0, 0, Nat.zero_le _, rfl, rfl, HV0, rfl⟩
      case round =>
        obtain ⟨j, n, hj, rfl, rfl, HV, rfl⟩ := hrel
        rcases Nat.lt_or_ge j l.length with hjl | hjl
        · obtain ⟨hix, hiy⟩ := HAt.out j hjl
          obtain ⟨y, hye⟩ : ∃ y, y = l.getD j 0 := ⟨_, rfl⟩
          rw [← hye] at hiy
          have hyb : 0 ≤ y ∧ y ≤ 255 := by rw [hye]; exact HOct.out _ (by simp [List.getD, hjl])
          have HY := hid hye
          clear hye
          have t1 : (((j + 1 : Nat) : Nat) : Int) < ((l.length + 1 : Nat) : Int) := by omega
          have t1b : j + 1 < l.length + 1 := by omega
          by_cases c1 : isDig y = true
          · have hd := isDig_iff.1 c1
            have hd1 := hd.1
            have hd2 := hd.2
            have hvb := val_bound (l.take j) 0 0 HV.out.2 (Int.le_refl _) (by decide)
            have hn : 0 ≤ n ∧ n < 10000000000 := by
              rw [HV.out.1]
              refine ⟨hvb.1, Int.lt_of_lt_of_le hvb.2 ?_⟩
              have hjt : (l.take j).length ≤ 9 := by rw [List.length_take]; omega
              have : (10 : Int) ^ (0 + (l.take j).length) ≤ 10 ^ 10 := by
                have h9 : (l.take j).length = 0 ∨ (l.take j).length = 1 ∨ (l.take j).length = 2 ∨ (l.take j).length = 3 ∨ (l.take j).length = 4 ∨ (l.take j).length = 5 ∨ (l.take j).length = 6 ∨ (l.take j).length = 7 ∨ (l.take j).length = 8 ∨ (l.take j).length = 9 := by omega
                rcases h9 with h | h | h | h | h | h | h | h | h | h <;> rw [h] <;> decide
              exact Int.le_trans this (by decide)
            have hn1 := hn.1
            have hn2 := hn.2
            obtain ⟨d, hde⟩ : ∃ d, d = y - 48 := ⟨_, rfl⟩
            obtain ⟨m, hme⟩ : ∃ m, m = 10 * n + d := ⟨_, rfl⟩
            have HV2 : Hid (m = valF (l.take (j + 1)) 0 ∧ ∀ x ∈ l.take (j + 1), isDig x = true) := by
              refine ⟨by rw [val_take hjl, hme, hde, HV.out.1, HY.out], ?_⟩
              intro x hx
              rw [take_snoc l j 0 hjl, List.mem_append, List.mem_singleton] at hx
              rcases hx with hx | rfl
              · exact HV.out.2 x hx
              · rw [← HY.out]; exact c1
            have k1 : IntKind.u8.wrap (y - 48) = d := by
              rw [hde]
              simp [IntKind.wrap, IntKind.bits, IntKind.signed]
              omega
            have k2 : wrap64 (10 * n) = 10 * n := by unfold wrap64; omega
            have k3 : wrap64 (10 * n + d) = m := by unfold wrap64; omega
            have k5 : wrap64 d = d := by unfold wrap64; omega
            clear HV hvb hn hde hme HN hd
            go_wp2_with fail
            refine ⟨⟨j + 1, m, hjl, ?_, ?_, HV2, trivial⟩, ?_⟩
            · rw [k3]
            · congr 1
            · have e1 : (intOf (Value.int IntKind.i64 ((j : Int) + 1 + 1))).toNat = j + 2 := by simp [intOf]; omega
              have e2 : (intOf (Value.int IntKind.i64 ((j + 1 : Nat) : Int))).toNat = j + 1 := by simp [intOf]
              rw [e1, e2]
              omega
          · have c1' : isDig y = false := by simpa using c1
            have HR : Hid (parseN (k :: l) = none) := parse_dig j hjl (by rw [← HY.out]; exact c1')
            clear HV HN c1
            have c2 : y < 48 ∨ 57 < y := by
              simp only [isDig, Bool.and_eq_false_iff, decide_eq_false_iff_not] at c1'
              omega
            clear c1'
            rcases c2 with c2 | c2
            · go_wp2_with fail
              go_ret3
              rw [HR.out, HE2.out]
              exact ⟨rfl, HB.out⟩
            · have c3 : ¬ y < 48 := by omega
              go_wp2_with fail
              go_ret3
              rw [HR.out, HE2.out]
              exact ⟨rfl, HB.out⟩
        · have hje : j = l.length := by omega
          subst hje
          rw [List.take_length] at HV
          have HP : Hid (parseN (k :: l) = if kindOk k = true ∧ idOk n = true ∧ digs n.toNat = l then some (k, n) else none) := by
            unfold Hid
            rw [HV.out.1]
            exact parse_all (by intro q; rw [q] at hl1; simp at hl1) hl2 (List.all_eq_true.2 HV.out.2)
          have t1 : ¬ (((l.length + 1 : Nat) : Nat) : Int) < ((l.length + 1 : Nat) : Int) := by omega
          clear HV HAt hjl hj
          by_cases c1 : kindOk k = true
          · by_cases c2 : idOk n = true
            · have e1 : nameN k n = (k :: digs n.toNat, 0) := by unfold nameN; rw [c1, c2]; rfl
              by_cases c3 : digs n.toNat = l
              · have HN2 := hid (HN.out n (strOfNums (k :: l)) 0 (by rw [e1, c3]))
                have HR : Hid (parR (parseN (k :: l)) = .tuple #[.int .u8 k, .int .i64 n, .bool true]) := by unfold Hid; rw [HP.out, if_pos ⟨c1, c2, c3⟩]; rfl
                clear HP HN c1 c2 c3 e1 HOct HOct2
                go_wp2_with fail
                refine (HN2.out _).mono ?_
                rintro e w2 ⟨rfl, hb2⟩
                go_wp2_with fail
                go_ret3
                rw [HR.out]
                exact ⟨rfl, hb2⟩
              · have hq1 : ¬ (strOfNums (k :: digs n.toNat)).toList = (strOfNums (k :: l)).toList := by
                  intro q
                  have h := str_eq (k :: digs n.toNat) (k :: l) (fun x hx => by rcases List.mem_cons.1 hx with rfl | hx; exact hk; exact digs_oct _ x hx) HOct2.out
                  rw [q] at h
                  simp only [BEq.rfl] at h
                  have := of_decide_eq_true h.symm
                  injection this with _ this
                  exact c3 this
                have HN2 := hid (HN.out n (strOfNums (k :: digs n.toNat)) 0 (by rw [e1]))
                have HR : Hid (parR (parseN (k :: l)) = .tuple #[.int .u8 0, .int .i64 0, .bool false]) := by unfold Hid; rw [HP.out, if_neg (fun q => c3 q.2.2)]; rfl
                clear HP HN c1 c2 c3 e1 HOct HOct2
                generalize strOfNums (k :: digs n.toNat) = S3 at *
                have hq2 : (S3.toList == (strOfNums (k :: l)).toList) = false := by simpa using hq1
                have hq3 : (S3.toList != (strOfNums (k :: l)).toList) = true := by simpa using hq1
                go_wp2_with fail
                refine (HN2.out _).mono ?_
                rintro e w2 ⟨rfl, hb2⟩
                go_wp2_with fail
                go_ret3
                rw [HR.out]
                exact ⟨rfl, hb2⟩
            · have e1 : nameN k n = ([], 4) := by unfold nameN; rw [c1, (by simpa using c2 : idOk n = false)]; rfl
              have HN2 := hid (HN.out n { data := #[] } 4 (by rw [e1]; rfl))
              have HR : Hid (parR (parseN (k :: l)) = .tuple #[.int .u8 0, .int .i64 0, .bool false]) := by unfold Hid; rw [HP.out, if_neg (fun q => c2 q.2.1)]; rfl
              clear HP HN c1 c2 e1 HOct HOct2
              go_wp2_with fail
              refine (HN2.out _).mono ?_
              rintro e w2 ⟨rfl, hb2⟩
              go_wp2_with fail
              go_ret3
              rw [HR.out]
              exact ⟨rfl, hb2⟩
          · have e1 : nameN k n = ([], 22) := by unfold nameN; rw [(by simpa using c1 : kindOk k = false)]; rfl
            have HN2 := hid (HN.out n { data := #[] } 22 (by rw [e1]; rfl))
            have HR : Hid (parR (parseN (k :: l)) = .tuple #[.int .u8 0, .int .i64 0, .bool false]) := by unfold Hid; rw [HP.out, if_neg (fun q => c1 q.1)]; rfl
            clear HP HN c1 e1 HOct HOct2
            go_wp2_with fail
            refine (HN2.out _).mono ?_
            rintro e w2 ⟨rfl, hb2⟩
            go_wp2_with fail
            go_ret3
            rw [HR.out]
            exact ⟨rfl, hb2⟩
end Go.Proofs.YtnchjlimkgbfpaaGreatDoor
