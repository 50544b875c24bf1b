/- The program's Parse: for any text it says what 'parseN' says. -/
import Derived.Test.YtnchjlimkgbfpaaDoorHAto
namespace Go.Proofs.YtnchjlimkgbfpaaDoor
open Go.RowKit
set_option linter.unusedVariables false
set_option linter.unusedSimpArgs false

theorem str_size (l : List Int) : (strOfNums l).size = l.length := strOfNums_size l
theorem str_at (l : List Int) (hl : ∀ x ∈ l, 0 ≤ x ∧ x ≤ 255) (k : Nat) (h : k < (strOfNums l).size) : (((strOfNums l)[k]'h).toNat : Int) = l.getD k 0 := by
  have hk : k < l.length := by rw [str_size] at h; exact h
  have e : (strOfNums l)[k]'h = UInt8.ofNat (l[k]).toNat := by
    show (strOfNums l).data[k]'_ = _
    simp [strOfNums]
  have hb := hl l[k] (List.getElem_mem hk)
  rw [e]
  simp [List.getD, hk]
  omega
theorem nameX (k id : Int) (s : ByteArray) (n : Int) (h : (strOfNums (nameN k id).1, (nameN k id).2) = (s, n)) (hk : 0 ≤ k ∧ k ≤ 255) (w : World) (ht : Tab w) : Calls Tryd.prog 5 #[.int .u8 k, .int .i64 id] w fun e w' => e = .returned (.tuple #[.string s, .int .i64 n]) ∧ Below w.heap.size w w' := by
  injection h with h1 h2
  rw [← h1, ← h2]
  exact name_any k id hk w ht
set_option maxHeartbeats 2000000 in
theorem parse_any (s : List Int) (hs : ∀ x ∈ s, 0 ≤ x ∧ x ≤ 255) (hm : s.length ≤ 140737488355328) (w : World) (he : EnvL w) : Calls Tryd.prog 7 #[.string (strOfNums s)] w fun e w' => e = .returned (parR (parseN s)) ∧ Below w.heap.size w w' := by
  have HB : Hid (Below w.heap.size w w) := Below.refl _ _
  cases s with
  | nil =>
    have e : parR (parseN []) = .tuple #[.int .u8 0, .int .i64 0, .bool false] := rfl
    have hs0 : strOfNums [] = { data := #[] } := rfl
    rw [e, hs0]
    go_enter Tryd.func7, Tryd.ntmps7
    go_wp2_with fail
    go_ret3
    exact ⟨rfl, HB.out⟩
  | cons k l =>
    have hne : ¬ (strOfNums (k :: l)).toList = [] := by rw [str_list]; simp
    have hnb : ((strOfNums (k :: l)).toList == []) = false := by simpa using hne
    have hsz : (strOfNums (k :: l)).size = l.length + 1 := by rw [str_size]; rfl
    have h0 : 0 < (strOfNums (k :: l)).size := by omega
    have hat := str_at (k :: l) hs 0 h0
    have hk := hs k List.mem_cons_self
    have hl : ∀ x ∈ l, 0 ≤ x ∧ x ≤ 255 := fun x hx => hs x (List.mem_cons_of_mem _ hx)
    rw [show (k :: l).getD 0 0 = k from rfl] at hat
    have ec : (strOfNums (k :: l)).extract 1 (l.length + 1) = strOfNums l := by
      rw [str_cut, List.take_of_length_le (by simp)]
      rfl
    have hlm : l.length ≤ 140737488355328 := by simp at hm; omega
    by_cases ha : ∃ v, Lib.atoiAll (u8s l) = .ok v
    · obtain ⟨v, ha⟩ := ha
      have HA := hid (atoi_ok l v hlm ha w)
      have HP : Hid (parseN (k :: l) = if kindOk k = true ∧ idOk v = true ∧ digs v.toNat = l then some (k, v) else none) := parse_ok ha
      have HN := hid (fun s n h w' (hb : Below w.heap.size w w') => nameX k v s n h hk w' (he.1.up hb))
      clear he ha
      by_cases c1 : kindOk k = true
      · by_cases c2 : idOk v = true
        · have e1 : nameN k v = (k :: digs v.toNat, 0) := by unfold nameN; rw [c1, c2]; rfl
          rw [e1] at HN
          have hv : 1 ≤ v ∧ v ≤ 2147483647 := by simpa [idOk] using c2
          by_cases c3 : digs v.toNat = l
          · have HN2 := hid (HN.out (strOfNums (k :: l)) 0 (by rw [c3]))
            rw [HP.out, if_pos ⟨c1, c2, c3⟩]
            have e2 : parR (some (k, v)) = .tuple #[.int .u8 k, .int .i64 v, .bool true] := rfl
            rw [e2]
            clear HN HP c3 e1 c2 c1 hl hv hs hm hk hlm
            generalize strOfNums (k :: l) = S at *
            generalize strOfNums l = S2 at *
            generalize l.length = n at *
            go_enter Tryd.func7, Tryd.ntmps7
            go_wp2_with fail
            refine HA.out.mono ?_
            rintro e w' ⟨rfl, hb⟩
            go_wp2_with fail
            refine (HN2.out w' hb).mono ?_
            rintro e w2 ⟨rfl, hb2⟩
            go_wp2_with fail
            go_ret3
            exact ⟨rfl, hb.trans (hb2.mono hb.size)⟩
          · have hq : strOfNums (k :: digs v.toNat) ≠ strOfNums (k :: l) := by
              intro q
              have := str_inj _ _ (fun x hx => by rcases List.mem_cons.1 hx with rfl | hx; exact hk; exact digs_oct _ x hx) hs q
              injection this with _ this
              exact c3 this
            have hq1 : ¬ (strOfNums (k :: digs v.toNat)).toList = (strOfNums (k :: l)).toList := by
              intro q
              have hd : (strOfNums (k :: digs v.toNat)).data = (strOfNums (k :: l)).data := by
                rw [str_list, str_list] at q
                unfold strOfNums
                simp only
                rw [q]
              exact hq (by cases h1 : strOfNums (k :: digs v.toNat); cases h2 : strOfNums (k :: l); rw [h1, h2] at hd; simp only at hd; rw [hd])
            have HN2 := hid (HN.out (strOfNums (k :: digs v.toNat)) 0 rfl)
            rw [HP.out, if_neg (fun q => c3 q.2.2)]
            have e2 : parR none = .tuple #[.int .u8 0, .int .i64 0, .bool false] := rfl
            rw [e2]
            clear HN HP c3 e1 c2 c1 hl hv hs hm hk hlm hq
            generalize strOfNums (k :: l) = S at *
            generalize strOfNums (k :: digs v.toNat) = S3 at *
            generalize strOfNums l = S2 at *
            generalize l.length = n at *
            have hq2 : (S3.toList == S.toList) = false := by simpa using hq1
            have hq3 : (S3.toList != S.toList) = true := by simpa using hq1
            go_enter Tryd.func7, Tryd.ntmps7
            go_wp2_with fail
            refine HA.out.mono ?_
            rintro e w' ⟨rfl, hb⟩
            go_wp2_with fail
            refine (HN2.out w' hb).mono ?_
            rintro e w2 ⟨rfl, hb2⟩
            go_wp2_with fail
            go_ret3
            exact ⟨rfl, hb.trans (hb2.mono hb.size)⟩
        · have e1 : nameN k v = ([], 4) := by unfold nameN; rw [c1, (by simpa using c2 : idOk v = false)]; rfl
          rw [e1] at HN
          have HN2 := hid (HN.out { data := #[] } 4 rfl)
          rw [HP.out, if_neg (fun q => c2 q.2.1)]
          have e2 : parR none = .tuple #[.int .u8 0, .int .i64 0, .bool false] := rfl
          rw [e2]
          clear HN HP e1 c2 c1 hl hs hm hk hlm
          generalize strOfNums (k :: l) = S at *
          generalize strOfNums l = S2 at *
          generalize l.length = n at *
          go_enter Tryd.func7, Tryd.ntmps7
          go_wp2_with fail
          refine HA.out.mono ?_
          rintro e w' ⟨rfl, hb⟩
          go_wp2_with fail
          refine (HN2.out w' hb).mono ?_
          rintro e w2 ⟨rfl, hb2⟩
          go_wp2_with fail
          go_ret3
          exact ⟨rfl, hb.trans (hb2.mono hb.size)⟩
      · have e1 : nameN k v = ([], 22) := by unfold nameN; rw [(by simpa using c1 : kindOk k = false)]; rfl
        rw [e1] at HN
        have HN2 := hid (HN.out { data := #[] } 22 rfl)
        rw [HP.out, if_neg (fun q => c1 q.1)]
        have e2 : parR none = .tuple #[.int .u8 0, .int .i64 0, .bool false] := rfl
        rw [e2]
        clear HN HP e1 c1 hl hs hm hk hlm
        generalize strOfNums (k :: l) = S at *
        generalize strOfNums l = S2 at *
        generalize l.length = n at *
        go_enter Tryd.func7, Tryd.ntmps7
        go_wp2_with fail
        refine HA.out.mono ?_
        rintro e w' ⟨rfl, hb⟩
        go_wp2_with fail
        refine (HN2.out w' hb).mono ?_
        rintro e w2 ⟨rfl, hb2⟩
        go_wp2_with fail
        go_ret3
        exact ⟨rfl, hb.trans (hb2.mono hb.size)⟩
    · have ha2 : ∀ v, Lib.atoiAll (u8s l) ≠ .ok v := fun v h => ha ⟨v, h⟩
      have HA := hid (atoi_no l hlm ha2 w he.2)
      rw [parse_no ha2]
      have e2 : parR none = .tuple #[.int .u8 0, .int .i64 0, .bool false] := rfl
      rw [e2]
      clear he ha ha2 hl hs hm hk hlm
      generalize strOfNums (k :: l) = S at *
      generalize strOfNums l = S2 at *
      generalize l.length = n at *
      go_enter Tryd.func7, Tryd.ntmps7
      go_wp2_with fail
      refine HA.out.mono ?_
      rintro e w' ⟨m, M, rfl, hb⟩
      go_wp2_with fail
      go_ret3
      exact ⟨rfl, hb⟩
end Go.Proofs.YtnchjlimkgbfpaaDoor
