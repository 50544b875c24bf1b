/- The texts HPar, FBase, FLeaf, FList, in this order. -/
import Derived.Test.YtnchjlimkgbfpaaGreatDoorE02

namespace Go.Proofs.YtnchjlimkgbfpaaGreatDoor
open Go.RowKit
set_option linter.unusedVariables false
set_option maxRecDepth 20000
set_option linter.unusedSimpArgs false
theorem str_size (l : List Int) : (strOfNums l).size = l.length := strOfNums_size l
theorem str_at (l : List Int) (hl : ∀ x ∈ l, 0 ≤ x ∧ x ≤ 255) (k : Nat) (h : k < (strOfNums l).size) : (((strOfNums l)[k]'h).toNat : Int) = l.getD k 0 := by
  have hk : k < l.length := by rw [str_size] at h; exact h
  have e : (strOfNums l)[k]'h = UInt8.ofNat (l[k]).toNat := by
    show (strOfNums l).data[k]'_ = _
    simp [strOfNums]
  have hb := hl l[k] (List.getElem_mem hk)
  rw [e]
  simp [List.getD, hk]
  omega
theorem nameX (k id : Int) (s : ByteArray) (n : Int) (h : (strOfNums (nameN k id).1, (nameN k id).2) = (s, n)) (hk : 0 ≤ k ∧ k ≤ 255) (w : World) (ht : Tab w) : Calls Tryz.prog 35 #[.int .u8 k, .int .i64 id] w fun e w' => e = .returned (.tuple #[.string s, .int .i64 n]) ∧ Below w.heap.size w w' := by
  injection h with h1 h2
  rw [← h1, ← h2]
  exact name_any k id hk w ht
set_option maxHeartbeats 2000000 in
theorem parse_any (s : List Int) (hs : ∀ x ∈ s, 0 ≤ x ∧ x ≤ 255) (hm : s.length ≤ 140737488355328) (w : World) (he : EnvL w) : Calls Tryz.prog 49 #[.string (strOfNums s)] w fun e w' => e = .returned (parR (parseN s)) ∧ Below w.heap.size w w' := by
  have HB : Hid (Below w.heap.size w w) := Below.refl _ _
  cases s with
  | nil =>
    have e : parR (parseN []) = .tuple #[.int .u8 0, .int .i64 0, .bool false] := rfl
    have hs0 : strOfNums [] = { data := #[] } := rfl
    rw [e, hs0]
    go_enter Tryz.func49, Tryz.ntmps49
    go_wp2_with fail
    go_ret3
    exact ⟨rfl, HB.out⟩
  | cons k l =>
    have hne : ¬ (strOfNums (k :: l)).toList = [] := by rw [str_list]; simp
    have hnb : ((strOfNums (k :: l)).toList == []) = false := by simpa using hne
    have hsz : (strOfNums (k :: l)).size = l.length + 1 := by rw [str_size]; rfl
    have h0 : 0 < (strOfNums (k :: l)).size := by omega
    have hat := str_at (k :: l) hs 0 h0
    have hk := hs k List.mem_cons_self
    have hl : ∀ x ∈ l, 0 ≤ x ∧ x ≤ 255 := fun x hx => hs x (List.mem_cons_of_mem _ hx)
    rw [show (k :: l).getD 0 0 = k from rfl] at hat
    have ec : (strOfNums (k :: l)).extract 1 (l.length + 1) = strOfNums l := by
      rw [str_cut, List.take_of_length_le (by simp)]
      rfl
    have hlm : l.length ≤ 140737488355328 := by simp at hm; omega
    by_cases ha : ∃ v, Lib.atoiAll (u8s l) = .ok v
    · obtain ⟨v, ha⟩ := ha
      have HA := hid (atoi_ok l v hlm ha w)
      have HP : Hid (parseN (k :: l) = if kindOk k = true ∧ idOk v = true ∧ digs v.toNat = l then some (k, v) else none) := parse_ok ha
      have HN := hid (fun s n h w' (hb : Below w.heap.size w w') => nameX k v s n h hk w' (he.1.up hb))
      clear he ha
      by_cases c1 : kindOk k = true
      · by_cases c2 : idOk v = true
        · have e1 : nameN k v = (k :: digs v.toNat, 0) := by unfold nameN; rw [c1, c2]; rfl
          rw [e1] at HN
          have hv : 1 ≤ v ∧ v ≤ 2147483647 := by simpa [idOk] using c2
          by_cases c3 : digs v.toNat = l
          · have HN2 := hid (HN.out (strOfNums (k :: l)) 0 (by rw [c3]))
            rw [HP.out, if_pos ⟨c1, c2, c3⟩]
            have e2 : parR (some (k, v)) = .tuple #[.int .u8 k, .int .i64 v, .bool true] := rfl
            rw [e2]
            clear HN HP c3 e1 c2 c1 hl hv hs hm hk hlm
            generalize strOfNums (k :: l) = S at *
            generalize strOfNums l = S2 at *
            generalize l.length = n at *
            go_enter Tryz.func49, Tryz.ntmps49
            go_wp2_with fail
            refine HA.out.mono ?_
            rintro e w' ⟨rfl, hb⟩
            go_wp2_with fail
            refine (HN2.out w' hb).mono ?_
            rintro e w2 ⟨rfl, hb2⟩
            go_wp2_with fail
            go_ret3
            exact ⟨rfl, hb.trans (hb2.mono hb.size)⟩
          · have hq : strOfNums (k :: digs v.toNat) ≠ strOfNums (k :: l) := by
              intro q
              have := str_inj _ _ (fun x hx => by rcases List.mem_cons.1 hx with rfl | hx; exact hk; exact digs_oct _ x hx) hs q
              injection this with _ this
              exact c3 this
            have hq1 : ¬ (strOfNums (k :: digs v.toNat)).toList = (strOfNums (k :: l)).toList := by
              intro q
              have hd : (strOfNums (k :: digs v.toNat)).data = (strOfNums (k :: l)).data := by
                rw [str_list, str_list] at q
                unfold strOfNums
                simp only
                rw [q]
              exact hq (by cases h1 : strOfNums (k :: digs v.toNat); cases h2 : strOfNums (k :: l); rw [h1, h2] at hd; simp only at hd; rw [hd])
            have HN2 := hid (HN.out (strOfNums (k :: digs v.toNat)) 0 rfl)
            rw [HP.out, if_neg (fun q => c3 q.2.2)]
            have e2 : parR none = .tuple #[.int .u8 0, .int .i64 0, .bool false] := rfl
            rw [e2]
            clear HN HP c3 e1 c2 c1 hl hv hs hm hk hlm hq
            generalize strOfNums (k :: l) = S at *
            generalize strOfNums (k :: digs v.toNat) = S3 at *
            generalize strOfNums l = S2 at *
            generalize l.length = n at *
            have hq2 : (S3.toList == S.toList) = false := by simpa using hq1
            have hq3 : (S3.toList != S.toList) = true := by simpa using hq1
            go_enter Tryz.func49, Tryz.ntmps49
            go_wp2_with fail
            refine HA.out.mono ?_
            rintro e w' ⟨rfl, hb⟩
            go_wp2_with fail
            refine (HN2.out w' hb).mono ?_
            rintro e w2 ⟨rfl, hb2⟩
            go_wp2_with fail
            go_ret3
            exact ⟨rfl, hb.trans (hb2.mono hb.size)⟩
        · have e1 : nameN k v = ([], 4) := by unfold nameN; rw [c1, (by simpa using c2 : idOk v = false)]; rfl
          rw [e1] at HN
          have HN2 := hid (HN.out { data := #[] } 4 rfl)
          rw [HP.out, if_neg (fun q => c2 q.2.1)]
          have e2 : parR none = .tuple #[.int .u8 0, .int .i64 0, .bool false] := rfl
          rw [e2]
          clear HN HP e1 c2 c1 hl hs hm hk hlm
          generalize strOfNums (k :: l) = S at *
          generalize strOfNums l = S2 at *
          generalize l.length = n at *
          go_enter Tryz.func49, Tryz.ntmps49
          go_wp2_with fail
          refine HA.out.mono ?_
          rintro e w' ⟨rfl, hb⟩
          go_wp2_with fail
          refine (HN2.out w' hb).mono ?_
          rintro e w2 ⟨rfl, hb2⟩
          go_wp2_with fail
          go_ret3
          exact ⟨rfl, hb.trans (hb2.mono hb.size)⟩
      · have e1 : nameN k v = ([], 22) := by unfold nameN; rw [(by simpa using c1 : kindOk k = false)]; rfl
        rw [e1] at HN
        have HN2 := hid (HN.out { data := #[] } 22 rfl)
        rw [HP.out, if_neg (fun q => c1 q.1)]
        have e2 : parR none = .tuple #[.int .u8 0, .int .i64 0, .bool false] := rfl
        rw [e2]
        clear HN HP e1 c1 hl hs hm hk hlm
        generalize strOfNums (k :: l) = S at *
        generalize strOfNums l = S2 at *
        generalize l.length = n at *
        go_enter Tryz.func49, Tryz.ntmps49
        go_wp2_with fail
        refine HA.out.mono ?_
        rintro e w' ⟨rfl, hb⟩
        go_wp2_with fail
        refine (HN2.out w' hb).mono ?_
        rintro e w2 ⟨rfl, hb2⟩
        go_wp2_with fail
        go_ret3
        exact ⟨rfl, hb.trans (hb2.mono hb.size)⟩
    · have ha2 : ∀ v, Lib.atoiAll (u8s l) ≠ .ok v := fun v h => ha ⟨v, h⟩
      have HA := hid (atoi_no l hlm ha2 w he.2)
      rw [parse_no ha2]
      have e2 : parR none = .tuple #[.int .u8 0, .int .i64 0, .bool false] := rfl
      rw [e2]
      clear he ha ha2 hl hs hm hk hlm
      generalize strOfNums (k :: l) = S at *
      generalize strOfNums l = S2 at *
      generalize l.length = n at *
      go_enter Tryz.func49, Tryz.ntmps49
      go_wp2_with fail
      refine HA.out.mono ?_
      rintro e w' ⟨m, M, rfl, hb⟩
      go_wp2_with fail
      go_ret3
      exact ⟨rfl, hb⟩
end Go.Proofs.YtnchjlimkgbfpaaGreatDoor

namespace Go.Proofs.YtnchjlimkgbfpaaGreatDoor
open Go.RowKit
set_option linter.unusedVariables false
set_option maxRecDepth 20000
def In64 (x : Int) : Prop := -9223372036854775808 ≤ x ∧ x ≤ 9223372036854775807
def OctL (l : List Int) : Prop := ∀ x ∈ l, 0 ≤ x ∧ x ≤ 255
def nrow (p : List Int × Int) : List Value := [.string (strOfNums p.1), .int .i64 p.2]
def NamesW (w : World) (v : Value) (l : List (List Int × Int)) : Prop := (∀ p ∈ l, OctL p.1 ∧ p.1.length ≤ 140737488355328 ∧ In64 p.2) ∧ Rws 2 w v (l.map nrow)
theorem NamesW.up {w w' : World} {v : Value} {l : List (List Int × Int)} (h : NamesW w v l) (hb : Below w.heap.size w w') : NamesW w' v l := ⟨h.1, h.2.up hb⟩
theorem NamesW.len {w : World} {v : Value} {l : List (List Int × Int)} (h : NamesW w v l) : ∃ a cap, v = .slice a l.length cap ∧ l.length ≤ cap ∧ cap ≤ maxLen := by
  obtain ⟨a, cap, e, h1, h2⟩ := h.2.len
  rw [List.length_map] at e h1
  exact ⟨a, cap, e, h1, h2⟩
theorem NamesW.at {w : World} {v : Value} {l : List (List Int × Int)} (h : NamesW w v l) (k : Nat) (hk : k < l.length) :
    ∃ b off cap, v = .slice (some ⟨b, off, none⟩) l.length cap ∧ l.length ≤ cap ∧ cap ≤ maxLen ∧ w.cell? ⟨b, off + k * 2, none⟩ = some (.string (strOfNums (l.getD k ([], 0)).1)) ∧ w.cell? ⟨b, off + k * 2 + 1, none⟩ = some (.int .i64 (l.getD k ([], 0)).2) ∧ OctL (l.getD k ([], 0)).1 ∧ (l.getD k ([], 0)).1.length ≤ 140737488355328 ∧ In64 (l.getD k ([], 0)).2 := by
  obtain ⟨b, off, cap, e, h1, h2, hc⟩ := h.2.at k (by rw [List.length_map]; exact hk)
  rw [List.length_map] at e h1
  have hr : (l.map nrow).getD k [] = nrow (l.getD k ([], 0)) := by simp [List.getD, hk]
  rw [hr] at hc
  have hw := h.1 (l.getD k ([], 0)) (by simp [List.getD, hk])
  exact ⟨b, off, cap, e, h1, h2, hc 0 _ rfl, hc 1 _ rfl, hw.1, hw.2.1, hw.2.2⟩
def frow (y : Value × Int × List Int × Int) : List Value := [.int .i64 y.2.1, y.1, .int .i64 y.2.2.2]
def FilesW (w : World) (v : Value) (l : List (Int × List Int × Int)) : Prop := ∃ m : List (Value × Int × List Int × Int), m.map (·.2) = l ∧ Rws 3 w v (m.map frow) ∧ ∀ y ∈ m, Octs w y.1 y.2.2.1 ∧ y.2.2.1.length ≤ 140737488355328 ∧ In64 y.2.1 ∧ In64 y.2.2.2
theorem FilesW.up {w w' : World} {v : Value} {l : List (Int × List Int × Int)} (h : FilesW w v l) (hb : Below w.heap.size w w') : FilesW w' v l := by
  obtain ⟨m, h1, h2, h3⟩ := h
  exact ⟨m, h1, h2.up hb, fun y hy => ⟨(h3 y hy).1.up hb, (h3 y hy).2⟩⟩
theorem FilesW.len {w : World} {v : Value} {l : List (Int × List Int × Int)} (h : FilesW w v l) : ∃ a cap, v = .slice a l.length cap ∧ l.length ≤ cap ∧ cap ≤ maxLen := by
  obtain ⟨m, rfl, h2, h3⟩ := h
  obtain ⟨a, cap, e, h1, h2⟩ := h2.len
  rw [List.length_map] at e h1
  rw [List.length_map]
  exact ⟨a, cap, e, h1, h2⟩
theorem FilesW.at {w : World} {v : Value} {l : List (Int × List Int × Int)} (h : FilesW w v l) (k : Nat) (hk : k < l.length) :
    ∃ b off cap u, v = .slice (some ⟨b, off, none⟩) l.length cap ∧ l.length ≤ cap ∧ cap ≤ maxLen ∧ w.cell? ⟨b, off + k * 3, none⟩ = some (.int .i64 (l.getD k (0, [], 0)).1) ∧ w.cell? ⟨b, off + k * 3 + 1, none⟩ = some u ∧ w.cell? ⟨b, off + k * 3 + 2, none⟩ = some (.int .i64 (l.getD k (0, [], 0)).2.2) ∧
      Octs w u (l.getD k (0, [], 0)).2.1 ∧ (l.getD k (0, [], 0)).2.1.length ≤ 140737488355328 ∧ In64 (l.getD k (0, [], 0)).1 ∧ In64 (l.getD k (0, [], 0)).2.2 := by
  obtain ⟨m, rfl, h2, h3⟩ := h
  rw [List.length_map] at hk
  obtain ⟨b, off, cap, e, h1, h2, hc⟩ := h2.at k (by rw [List.length_map]; exact hk)
  rw [List.length_map] at e h1
  have hr : (m.map frow).getD k [] = frow m[k] := by simp [List.getD, hk]
  have hl : (m.map (·.2)).getD k (0, [], 0) = m[k].2 := by simp [List.getD, hk]
  rw [hr] at hc
  rw [hl, List.length_map]
  have hw := h3 m[k] (List.getElem_mem hk)
  exact ⟨b, off, cap, m[k].1, e, h1, h2, hc 0 _ rfl, hc 1 _ rfl, hc 2 _ rfl, hw.1, hw.2.1, hw.2.2.1, hw.2.2.2⟩
theorem Octs.slice {w : World} {v : Value} {l : List Int} (h : Octs w v l) : ∃ a cap, v = .slice a l.length cap ∧ l.length ≤ cap := by
  obtain ⟨_, h⟩ := h
  rcases h with ⟨rfl, a, cap, rfl, _⟩ | ⟨hn, b, off, cap, rfl, hc, hm, hj⟩
  · exact ⟨a, cap, rfl, Nat.zero_le _⟩
  · exact ⟨_, cap, rfl, hc⟩
structure St where
  cap : Int
  files : List (Int × List Int × Int)
  names : List (List Int × Int)
  safe : List (List Int × Int)
  next : Int
def StW (w : World) (v : Value) (s : St) : Prop := ∃ vf vn vs, v = .agg #[.int .i64 s.cap, vf, vn, vs, .int .i64 s.next] ∧ FilesW w vf s.files ∧ NamesW w vn s.names ∧ NamesW w vs s.safe ∧ In64 s.cap ∧ In64 s.next
theorem StW.up {w w' : World} {v : Value} {s : St} (h : StW w v s) (hb : Below w.heap.size w w') : StW w' v s := by
  obtain ⟨vf, vn, vs, e, h1, h2, h3, h4⟩ := h
  exact ⟨vf, vn, vs, e, h1.up hb, h2.up hb, h3.up hb, h4⟩
def mayOf (s : List Int) : Bool := decide (1 ≤ s.length) && decide (s.length ≤ 32) && s.all fun x => decide (33 ≤ x) && decide (x ≤ 126)
def placeOf {A : Type} (p : A → Bool) : List A → Int
  | [] => -1
  | x :: l => if p x then 0 else if placeOf p l = -1 then -1 else placeOf p l + 1
theorem placeOf_none {A : Type} (p : A → Bool) (l : List A) (h : ∀ x ∈ l, p x = false) : placeOf p l = -1 := by
  induction l with
  | nil => rfl
  | cons x l ih => simp [placeOf, h x (by simp), ih (fun y hy => h y (by simp [hy]))]
theorem placeOf_at {A : Type} (p : A → Bool) : ∀ (l : List A) (k : Nat) (x : A), l[k]? = some x → p x = true → (∀ y ∈ l.take k, p y = false) → placeOf p l = (k : Int)
  | [], k, x, h, _, _ => by simp at h
  | y :: l, 0, x, h, hp, _ => by
    simp at h
    subst h
    simp [placeOf, hp]
  | y :: l, k + 1, x, h, hp, hn => by
    simp at h
    have e := placeOf_at p l k x h hp (fun z hz => hn z (by simp [hz]))
    simp only [placeOf, hn y (by simp), Bool.false_eq_true, if_false, e]
    rw [if_neg (by omega)]
    omega
def fileOf (l : List (Int × List Int × Int)) (id : Int) : Int := placeOf (fun f => f.1 == id) l
def findOf (l : List (List Int × Int)) (s : List Int) : Int := placeOf (fun p => decide (p.1 = s)) l
def standsOf (l : List (List Int × Int)) (id : Int) : Bool := l.any fun p => p.2 == id
def usedOf (l : List (Int × List Int × Int)) : Int := (l.map fun f => (f.2.1.length : Int)).sum
end Go.Proofs.YtnchjlimkgbfpaaGreatDoor

namespace Go.Proofs.YtnchjlimkgbfpaaGreatDoor
open Go.RowKit
set_option linter.unusedVariables false
set_option maxRecDepth 20000
set_option maxHeartbeats 400000 in
theorem refMay_any (s : List Int) (hs : OctL s) (hl : s.length ≤ 140737488355328) (w : World) :
    Calls Tryz.prog 125 #[.string (strOfNums s)] w fun e w' => e = .returned (.bool (mayOf s)) ∧ w' = w := by
  have hsz : (strOfNums s).size = s.length := by simp [strOfNums, ByteArray.size]
  go_enter Tryz.func125, Tryz.ntmps125
  by_cases c1 : s.length < 1
  · have HM : Hid (mayOf s = false) := by unfold Hid mayOf; simp; omega
    have c1' : (s.length : Int) < 1 := by omega
    go_wp2
    go_ret
    rw [HM.out]
    exact ⟨rfl, rfl⟩
  · have c1' : ¬ (s.length : Int) < 1 := by omega
    by_cases c2 : 32 < s.length
    · have HM : Hid (mayOf s = false) := by unfold Hid mayOf; simp; omega
      have c2' : (32 : Int) < (s.length : Int) := by omega
      go_wp2
      go_ret
      rw [HM.out]
      exact ⟨rfl, rfl⟩
    · have c2' : ¬ (32 : Int) < (s.length : Int) := by omega
      go_wp2
      go_loopw [3] (fun i wr => ∃ k : Nat, k ≤ s.length ∧ i = .int .i64 k ∧ Hid (∀ x ∈ s.take k, 33 ≤ x ∧ x ≤ 126) ∧ wr = w) (fun i _ => s.length - (intOf i).toNat)
      case atStart => exact ⟨0, Nat.zero_le _, rfl, (fun x hx => by simp at hx), rfl⟩
      case round =>
        obtain ⟨k, hk, rfl, HK, rfl⟩ := hrel
        by_cases hlt : k < s.length
        · have hlt' : (k : Int) < (s.length : Int) := by omega
          have hj : k < (strOfNums s).size := by omega
          have hy := str_at s hs k hj
          have hyb : 0 ≤ s.getD k 0 ∧ s.getD k 0 ≤ 255 := hs _ (by simp [List.getD, hlt])
          have hmem : s.getD k 0 ∈ s := by simp [List.getD, hlt]
          have HT : Hid (s.take (k + 1) = s.take k ++ [s.getD k 0]) := take_snoc s k 0 hlt
          have HM : Hid (¬ (33 ≤ s.getD k 0 ∧ s.getD k 0 ≤ 126) → mayOf s = false) := by
            intro hn
            unfold mayOf
            rw [Bool.and_eq_false_iff]
            refine .inr ?_
            rw [List.all_eq_false]
            refine ⟨s.getD k 0, hmem, fun hc => hn ?_⟩
            rw [Bool.and_eq_true, decide_eq_true_eq, decide_eq_true_eq] at hc
            exact hc
          clear hmem
          generalize s.getD k 0 = y at *
          by_cases d1 : y < 33
          · have HM2 : Hid (mayOf s = false) := HM.out (by omega)
            go_wp2
            go_ret
            rw [HM2.out]
            exact ⟨rfl, rfl⟩
          · by_cases d2 : 126 < y
            · have HM2 : Hid (mayOf s = false) := HM.out (by omega)
              go_wp2
              go_ret
              rw [HM2.out]
              exact ⟨rfl, rfl⟩
            · have HK2 : Hid (∀ x ∈ s.take (k + 1), 33 ≤ x ∧ x ≤ 126) := by
                rw [HT.out]
                intro x hx
                rcases List.mem_append.1 hx with h | h
                · exact HK.out x h
                · simp at h
                  subst h
                  omega
              go_wp2
              exact ⟨⟨k + 1, by omega, by go_num, HK2, trivial⟩, by simp [intOf]; omega⟩
        · have hlt' : ¬ (k : Int) < (s.length : Int) := by omega
          obtain rfl : k = s.length := by omega
          have HM : Hid (mayOf s = true) := by
            unfold Hid mayOf
            have h := HK.out
            rw [List.take_length] at h
            simp only [Bool.and_eq_true, decide_eq_true_eq, List.all_eq_true]
            exact ⟨⟨by omega, by omega⟩, h⟩
          go_wp2
          go_ret
          rw [HM.out]
          exact ⟨rfl, rfl⟩
set_option maxHeartbeats 400000 in
theorem refStands_any (l : List (List Int × Int)) (id : Int) (v : Value) (w : World) (hv : NamesW w v l) :
    Calls Tryz.prog 79 #[v, .int .i64 id] w fun e w' => e = .returned (.bool (standsOf l id)) ∧ w' = w := by
  have HV : Hid (NamesW w v l) := hv
  obtain ⟨a, cap, rfl, hcap, hmax⟩ := hv.len
  clear hv
  unfold maxLen at hmax
  go_enter Tryz.func79, Tryz.ntmps79
  go_wp2
  go_loopw [5] (fun i wr => ∃ k : Nat, k ≤ l.length ∧ i = .int .i64 k ∧ Hid (∀ p ∈ l.take k, (p.2 == id) = false) ∧ wr = w) (fun i _ => l.length - (intOf i).toNat)
  case atStart => exact ⟨0, Nat.zero_le _, rfl, (fun x hx => by simp at hx), rfl⟩
  case round =>
    obtain ⟨k, hk, rfl, HK, rfl⟩ := hrel
    by_cases hlt : k < l.length
    · have hlt' : (k : Int) < (l.length : Int) := by omega
      obtain ⟨b, off, cap', e, _, _, c0, c1, _, _, hi⟩ := HV.out.at k hlt
      simp at e
      obtain ⟨rfl, rfl⟩ := e
      have HT : Hid (l.take (k + 1) = l.take k ++ [l.getD k ([], 0)]) := take_snoc l k _ hlt
      have hmem : Hid (l.getD k ([], 0) ∈ l) := by simp [Hid, List.getD, hlt]
      clear c0
      generalize l.getD k ([], 0) = y at *
      obtain ⟨ys, yi⟩ := y
      simp only at c1 hi
      by_cases d : yi = id
      · have d' : (yi == id) = true := by simp [d]
        have HM : Hid (standsOf l id = true) := by
          unfold Hid standsOf
          rw [List.any_eq_true]
          exact ⟨_, hmem.out, d'⟩
        go_wp2
        go_ret
        rw [HM.out]
        exact ⟨rfl, rfl⟩
      · have d' : (yi == id) = false := by simp [d]
        have HK2 : Hid (∀ p ∈ l.take (k + 1), (p.2 == id) = false) := by
          rw [HT.out]
          intro p hp
          rcases List.mem_append.1 hp with h | h
          · exact HK.out p h
          · simp at h
            subst h
            exact d'
        go_wp2
        exact ⟨⟨k + 1, by omega, by go_num, HK2, trivial⟩, by simp [intOf]; omega⟩
    · have hlt' : ¬ (k : Int) < (l.length : Int) := by omega
      obtain rfl : k = l.length := by omega
      have HM : Hid (standsOf l id = false) := by
        unfold Hid standsOf
        have h := HK.out
        rw [List.take_length] at h
        rw [List.any_eq_false]
        intro p hp
        rw [h p hp]
        decide
      go_wp2
      go_ret
      rw [HM.out]
      exact ⟨rfl, rfl⟩
set_option maxHeartbeats 400000 in
theorem refFind_any (l : List (List Int × Int)) (s : List Int) (hs : OctL s) (v : Value) (w : World) (hv : NamesW w v l) :
    Calls Tryz.prog 94 #[v, .string (strOfNums s)] w fun e w' => e = .returned (.int .i64 (findOf l s)) ∧ w' = w := by
  have HV : Hid (NamesW w v l) := hv
  obtain ⟨a, cap, rfl, hcap, hmax⟩ := hv.len
  clear hv
  unfold maxLen at hmax
  go_enter Tryz.func94, Tryz.ntmps94
  go_wp2
  go_loopw [5] (fun i wr => ∃ k : Nat, k ≤ l.length ∧ i = .int .i64 k ∧ Hid (∀ p ∈ l.take k, decide (p.1 = s) = false) ∧ wr = w) (fun i _ => l.length - (intOf i).toNat)
  case atStart => exact ⟨0, Nat.zero_le _, rfl, (fun x hx => by simp at hx), rfl⟩
  case round =>
    obtain ⟨k, hk, rfl, HK, rfl⟩ := hrel
    by_cases hlt : k < l.length
    · have hlt' : (k : Int) < (l.length : Int) := by omega
      obtain ⟨b, off, cap', e, _, _, c0, c1, ho, _, hi⟩ := HV.out.at k hlt
      simp at e
      obtain ⟨rfl, rfl⟩ := e
      have HT : Hid (l.take (k + 1) = l.take k ++ [l.getD k ([], 0)]) := take_snoc l k _ hlt
      have hget : Hid (l[k]? = some (l.getD k ([], 0))) := by simp [Hid, List.getD, hlt]
      clear c1
      generalize l.getD k ([], 0) = y at *
      obtain ⟨ys, yi⟩ := y
      simp only at c0 ho
      have heq := str_eq ys s ho hs
      clear ho
      by_cases d : ys = s
      · rw [decide_eq_true d] at heq
        have HM : Hid (findOf l s = (k : Int)) := placeOf_at _ l k (ys, yi) hget.out (decide_eq_true d) HK.out
        clear d
        go_wp2
        go_ret
        rw [HM.out]
        exact ⟨rfl, rfl⟩
      · rw [decide_eq_false d] at heq
        have HK2 : Hid (∀ p ∈ l.take (k + 1), decide (p.1 = s) = false) := by
          rw [HT.out]
          intro p hp
          rcases List.mem_append.1 hp with h | h
          · exact HK.out p h
          · simp at h
            subst h
            exact decide_eq_false d
        clear d
        go_wp2
        exact ⟨⟨k + 1, by omega, by go_num, HK2, trivial⟩, by simp [intOf]; omega⟩
    · have hlt' : ¬ (k : Int) < (l.length : Int) := by omega
      obtain rfl : k = l.length := by omega
      have HM : Hid (findOf l s = -1) := by
        have h := HK.out
        rw [List.take_length] at h
        exact placeOf_none _ l h
      go_wp2
      go_ret
      rw [HM.out]
      exact ⟨rfl, rfl⟩
set_option maxHeartbeats 400000 in
theorem refFile_any (l : List (Int × List Int × Int)) (id : Int) (x0 vf vn vs x4 : Value) (w : World) (hf : FilesW w vf l) :
    Calls Tryz.prog 96 #[.agg #[x0, vf, vn, vs, x4], .int .i64 id] w fun e w' => e = .returned (.int .i64 (fileOf l id)) ∧ w' = w.alloc (.cells #[x0, vf, vn, vs, x4] 25) := by
  have HV : Hid (FilesW w vf l) := hf
  obtain ⟨a, cap, rfl, hcap, hmax⟩ := hf.len
  clear hf
  unfold maxLen at hmax
  have HB : Hid (∀ o, Below w.heap.size w (w.alloc o)) := fun o => up_al (Below.refl _ _) o
  go_enter Tryz.func96, Tryz.ntmps96
  go_wp2
  go_loopw [5] (fun i wr => ∃ k : Nat, k ≤ l.length ∧ i = .int .i64 k ∧ Hid (∀ p ∈ l.take k, (p.1 == id) = false) ∧ wr = w.alloc (.cells #[x0, .slice a l.length cap, vn, vs, x4] 25)) (fun i _ => l.length - (intOf i).toNat)
  case atStart => exact ⟨0, Nat.zero_le _, rfl, (fun x hx => by simp at hx), rfl⟩
  case round =>
    obtain ⟨k, hk, rfl, HK, rfl⟩ := hrel
    by_cases hlt : k < l.length
    · have hlt' : (k : Int) < (l.length : Int) := by omega
      obtain ⟨b, off, cap', u, e, _, _, c0, c1, c2, _⟩ := (HV.out.up (HB.out (.cells #[x0, .slice a l.length cap, vn, vs, x4] 25))).at k hlt
      simp at e
      obtain ⟨rfl, rfl⟩ := e
      have HT : Hid (l.take (k + 1) = l.take k ++ [l.getD k (0, [], 0)]) := take_snoc l k _ hlt
      have hget : Hid (l[k]? = some (l.getD k (0, [], 0))) := by simp [Hid, List.getD, hlt]
      clear c1 c2
      generalize l.getD k (0, [], 0) = y at *
      obtain ⟨yi, yd, ys⟩ := y
      simp only at c0
      by_cases d : yi = id
      · have d' : (yi == id) = true := by simp [d]
        have HM : Hid (fileOf l id = (k : Int)) := placeOf_at _ l k (yi, yd, ys) hget.out d' HK.out
        go_wp2
        go_ret
        rw [HM.out]
        exact ⟨rfl, rfl⟩
      · have d' : (yi == id) = false := by simp [d]
        have HK2 : Hid (∀ p ∈ l.take (k + 1), (p.1 == id) = false) := by
          rw [HT.out]
          intro p hp
          rcases List.mem_append.1 hp with h | h
          · exact HK.out p h
          · simp at h
            subst h
            exact d'
        go_wp2
        exact ⟨⟨k + 1, by omega, by go_num, HK2, trivial⟩, by simp [intOf]; omega⟩
    · have hlt' : ¬ (k : Int) < (l.length : Int) := by omega
      obtain rfl : k = l.length := by omega
      have HM : Hid (fileOf l id = -1) := by
        have h := HK.out
        rw [List.take_length] at h
        exact placeOf_none _ l h
      go_wp2
      go_ret
      rw [HM.out]
      exact ⟨rfl, rfl⟩
theorem used_take (l : List (Int × List Int × Int)) (k : Nat) (h : k < l.length) : usedOf (l.take (k + 1)) = usedOf (l.take k) + ((l.getD k (0, [], 0)).2.1.length : Int) := by
  rw [take_snoc l k (0, [], 0) h]
  simp [usedOf]
theorem used_pos (l : List (Int × List Int × Int)) : 0 ≤ usedOf l := by
  induction l with
  | nil => simp [usedOf]
  | cons x l ih => simp only [usedOf, List.map_cons, List.sum_cons] at ih ⊢; omega
theorem used_le (l : List (Int × List Int × Int)) (h : ∀ f ∈ l, f.2.1.length ≤ 140737488355328) : usedOf l ≤ (l.length : Int) * 140737488355328 := by
  induction l with
  | nil => simp [usedOf]
  | cons x l ih =>
    have h1 := ih (fun f hf => h f (by simp [hf]))
    have h2 := h x (by simp)
    simp only [usedOf, List.map_cons, List.sum_cons, List.length_cons] at h1 ⊢
    push_cast
    omega
theorem FilesW.data {w : World} {v : Value} {l : List (Int × List Int × Int)} (h : FilesW w v l) : ∀ f ∈ l, f.2.1.length ≤ 140737488355328 := by
  obtain ⟨m, rfl, _, h3⟩ := h
  intro f hf
  obtain ⟨y, hy, rfl⟩ := List.mem_map.1 hf
  exact (h3 y hy).2.1
set_option maxHeartbeats 400000 in
theorem refUsed_any (l : List (Int × List Int × Int)) (x0 vf vn vs x4 : Value) (w : World) (hf : FilesW w vf l) (hn : l.length ≤ 256) :
    Calls Tryz.prog 78 #[.agg #[x0, vf, vn, vs, x4]] w fun e w' => e = .returned (.int .i64 (usedOf l)) ∧ w' = w.alloc (.cells #[x0, vf, vn, vs, x4] 25) := by
  have HV : Hid (FilesW w vf l) := hf
  obtain ⟨a, cap, rfl, hcap, hmax⟩ := hf.len
  have hd := hf.data
  clear hf
  unfold maxLen at hmax
  have HU : Hid (∀ k, usedOf (l.take k) ≤ 256 * 140737488355328) := by
    intro k
    have := used_le (l.take k) (fun f hf => hd f (List.mem_of_mem_take hf))
    have : ((l.take k).length : Int) ≤ 256 := by rw [List.length_take]; omega
    omega
  have HB : Hid (∀ o, Below w.heap.size w (w.alloc o)) := fun o => up_al (Below.refl _ _) o
  clear hd
  go_enter Tryz.func78, Tryz.ntmps78
  go_wp2
  go_loopw [3, 4] (fun n i wr => ∃ k : Nat, k ≤ l.length ∧ i = .int .i64 k ∧ n = .int .i64 (usedOf (l.take k)) ∧ wr = w.alloc (.cells #[x0, .slice a l.length cap, vn, vs, x4] 25)) (fun _ i _ => l.length - (intOf i).toNat)
  case atStart => exact ⟨0, Nat.zero_le _, rfl, rfl, rfl⟩
  case round =>
    obtain ⟨k, hk, rfl, rfl, rfl⟩ := hrel
    by_cases hlt : k < l.length
    · have hlt' : (k : Int) < (l.length : Int) := by omega
      obtain ⟨b, off, cap', u, e, _, _, c0, c1, c2, ho, hdl, _⟩ := (HV.out.up (HB.out (.cells #[x0, .slice a l.length cap, vn, vs, x4] 25))).at k hlt
      simp at e
      obtain ⟨rfl, rfl⟩ := e
      have HT : Hid (usedOf (l.take (k + 1)) = usedOf (l.take k) + ((l.getD k (0, [], 0)).2.1.length : Int)) := used_take l k hlt
      have hp := used_pos (l.take k)
      have hle := HU.out k
      clear c0 c2
      generalize l.getD k (0, [], 0) = y at *
      obtain ⟨yi, yd, ys⟩ := y
      simp only at c1 ho hdl HT
      obtain ⟨au, capu, rfl, _⟩ := ho.slice
      generalize usedOf (l.take k) = n at *
      go_wp2
      exact ⟨⟨k + 1, by omega, by go_num, by rw [HT.out], trivial⟩, by simp [intOf]; omega⟩
    · have hlt' : ¬ (k : Int) < (l.length : Int) := by omega
      obtain rfl : k = l.length := by omega
      rw [List.take_length]
      go_wp2
      go_ret
      exact ⟨rfl, rfl⟩
end Go.Proofs.YtnchjlimkgbfpaaGreatDoor

namespace Go.Proofs.YtnchjlimkgbfpaaGreatDoor
open Go.RowKit
set_option linter.unusedVariables false
set_option maxRecDepth 20000
def OwnN (w : World) (base : Nat) (e : TypeId) (v : Value) (l : List (List Int × Int)) : Prop := (∀ p ∈ l, OctL p.1 ∧ p.1.length ≤ 140737488355328 ∧ In64 p.2) ∧ OwnR w base e 2 v (l.map nrow)
theorem OwnN.nil (w : World) (base : Nat) (e : TypeId) : OwnN w base e (.slice none 0 0) [] := ⟨(fun p h => by cases h), OwnR.nil _ _ _ _⟩
theorem OwnN.up {w w' : World} {base : Nat} {e : TypeId} {v : Value} {l : List (List Int × Int)} (h : OwnN w base e v l) (hb : Below w.heap.size w w') : OwnN w' base e v l := ⟨h.1, h.2.up hb⟩
theorem NamesW.own {w : World} {base : Nat} {e : TypeId} {v : Value} {l : List (List Int × Int)} (h : OwnN w base e v l) : NamesW w v l := ⟨h.1, Rws.own h.2⟩
end Go.Proofs.YtnchjlimkgbfpaaGreatDoor
