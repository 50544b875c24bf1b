/- TableParts walked upon what is wanted of the program. -/
import Derived.Test.YtekoniaobmapdaaG33
import Derived.Test.YtekoniaobmapdaaG10
namespace Go.Proofs.Ytekoniaobmapdaa
open Go.RowKit SumPlain
set_option linter.unusedVariables false
set_option linter.unusedSimpArgs false

theorem bl_nil : ∀ l : List UInt8, Op.bytesLess l [] = false
  | [] => rfl
  | _ :: _ => rfl
/-- What is not below a key is followed by such. -/
theorem not_below {x y : En} (h : beforeE x y = true) {k : List UInt8} (hk : Op.bytesLess y.key.toList k = true) : Op.bytesLess x.key.toList k = true := by
  unfold beforeE at h
  cases h1 : Op.bytesLess x.key.toList y.key.toList
  · rw [h1, Bool.false_or, Bool.and_eq_true, beq_iff_eq] at h
    rw [h.1]; exact hk
  · exact bl_trans _ _ _ h1 hk
theorem asc_none {k : List UInt8} : ∀ (l : List En) (x : En), ascT (some x) l = true → Op.bytesLess x.key.toList k = false → ∀ y ∈ l, Op.bytesLess y.key.toList k = false
  | [], x, _, _, y, hy => by cases hy
  | z :: r, x, h, hx, y, hy => by
    rw [ascT, Bool.and_eq_true] at h
    have hz : Op.bytesLess z.key.toList k = false := by
      cases hq : Op.bytesLess z.key.toList k
      · rfl
      · rw [not_below h.1 hq] at hx; cases hx
    rcases List.mem_cons.1 hy with rfl | hy
    · exact hz
    · exact asc_none r z h.2 hz y hy
theorem asc_split {k : List UInt8} : ∀ (l : List En) (p : Option En), ascT p l = true → l.filter (fun x => Op.bytesLess x.key.toList k) ++ l.filter (fun x => !Op.bytesLess x.key.toList k) = l
  | [], _, _ => rfl
  | x :: r, p, h => by
    rw [ascT, Bool.and_eq_true] at h
    cases hx : Op.bytesLess x.key.toList k
    · have hn := asc_none r x h.2 hx
      rw [List.filter_cons, hx, if_neg (by simp), List.filter_cons, hx, if_pos (show (!false) = true from rfl)]
      rw [List.filter_eq_nil_iff.2 (fun y hy => by rw [hn y hy]; simp), List.nil_append]
      congr 1
      exact List.filter_eq_self.2 (fun y hy => by rw [hn y hy]; rfl)
    · rw [List.filter_cons, hx, if_pos rfl, List.filter_cons, hx, if_neg (by simp), List.cons_append, asc_split r _ h.2]
def noB : ByteArray := ⟨#[]⟩
theorem noB_list : noB.toList = [] := by
  have := str_list []
  exact this
theorem bet_parts {l : List En} {k : ByteArray} (h : (betP l noB k).2 = 0) (hk : k.toList ≠ []) : (betP l noB k).1 ++ (betP l k noB).1 = l := by
  unfold betP at *
  by_cases ha : ascT none l = true
  · rw [if_pos ha] at h
    rw [if_pos ha, if_pos ha]
    have e1 : l.filter (inB noB k) = l.filter (fun x => Op.bytesLess x.key.toList k.toList) := by
      congr 1
      funext x
      unfold inB
      rw [noB_list, bl_nil, show (k.toList == []) = false by simpa using hk]
      simp
    have e2 : l.filter (inB k noB) = l.filter (fun x => !Op.bytesLess x.key.toList k.toList) := by
      congr 1
      funext x
      unfold inB
      rw [noB_list]
      simp
    show l.filter (inB noB k) ++ l.filter (inB k noB) = l
    rw [e1, e2]
    exact asc_split l none ha
  · rw [if_neg ha] at h; cases h
theorem bet_all {l : List En} {k : ByteArray} (h : (betP l noB k).2 = 0) (hk : k.toList = []) : (betP l noB k).1 = l ∧ (betP l k noB).1 = l := by
  unfold betP at *
  by_cases ha : ascT none l = true
  · rw [if_pos ha] at h
    rw [if_pos ha, if_pos ha]
    constructor
    · refine List.filter_eq_self.2 (fun x _ => ?_)
      unfold inB
      rw [noB_list, bl_nil, hk]
      simp
    · refine List.filter_eq_self.2 (fun x _ => ?_)
      unfold inB
      rw [noB_list, hk, bl_nil]
      simp
  · rw [if_neg ha] at h; cases h
theorem bet_err (l : List En) (f t f' t' : ByteArray) : (betP l f t).2 = (betP l f' t').2 := by
  unfold betP
  by_cases ha : ascT none l = true
  · rw [if_pos ha, if_pos ha]
  · rw [if_neg ha, if_neg ha]
theorem bet_len (l : List En) (f t : ByteArray) : (betP l f t).1.length ≤ l.length := by
  unfold betP
  by_cases ha : ascT none l = true
  · rw [if_pos ha]; exact List.length_filter_le _ _
  · rw [if_neg ha]; simp
theorem rows_oneP (l : List En) : ∀ cs ∈ l.map enRow, ∀ u ∈ cs, u.oneCell' = true := by
  intro cs hcs u hu
  obtain ⟨s, _, rfl⟩ := List.mem_map.1 hcs
  exact enRow_one s _ (by simp) u hu

theorem copyEnts_own (l : List En) (v : Value) (w : World) (hv : EntsR w v l) (hl : l.length ≤ 4398046511104) :
    Calls Try.prog 17 #[v] w fun e w' => ∃ a n c, e = .returned (.slice a n c) ∧ OwnR w' w.heap.size 39 4 (.slice a n c) (l.map enRow) ∧ Below w.heap.size w w' := by
  have HV : Hid (Rws 4 w v (l.map enRow)) := hv
  have HB : Hid ((((([] : List (List Value)).length + (l.map enRow).length) + (([] : List (List Value)).length + (l.map enRow).length) / 4 + 192) * 48 ≤ 281474976710656) ∧ ([] : List (List Value)).length + (l.map enRow).length ≤ maxLen) := by
    unfold Hid
    rw [List.length_map]
    unfold maxLen
    simp only [List.length_nil]
    omega
  clear hv
  go_enter Try.func17, Try.ntmps17
  go_wp2_with (at_builtin; refine wpList_append_rows w rfl _ _ 22 39 _ 4 48 rfl Try.underlying22 Try.info39 rfl (by decide) w.heap.size (.slice none 0 0) [] rfl (OwnR.nil _ _ _ _) v (l.map enRow) rfl HV.out (rows_oneP l) HB.out.1 HB.out.2 (Nat.le_refl _) ?_)
  intro v' w' hown hg
  have HT : Hid (OwnR w' w.heap.size 39 4 v' (l.map enRow)) := hown
  have HU : Hid (Below w.heap.size w w') := (Below.refl _ _).grown hg (Nat.le_refl _) (by simp [Value.ownBlock])
  clear hown hg
  obtain ⟨a, c, e, _, _⟩ := (Rws.own HT.out).len
  generalize (l.map enRow).length = n at e
  subst e
  go_wp2
  go_ret
  exact ⟨a, n, c, rfl, HT.out, HU.out⟩

set_option maxHeartbeats 4000000 in
set_option maxRecDepth 100000 in
theorem parts_walk (P : PgT) (PB : PgB) (l : List En) (fb : List Int) (k : Int) (a : Option Addr) (n c : Nat) (fa : Option Addr) (fn fc : Nat) (key : ByteArray) (w : World) (hn : n = l.length) (hv : EntsR w (.slice a n c) l) (hl : n ≤ 4398046511104) (hfn : fn = fb.length) (hf : Octs w (.slice fa fn fc) fb) (hfl : fn ≤ 140737488351232) :
    Calls Try.prog 6 #[.agg #[.slice a n c, .int .i64 k, .slice fa fn fc], .string key] w fun e w' => e = .returned (.bool true) ∧ Below w.heap.size w w' := by
  have HP : Hid PgT := P
  have HN : Hid (∀ (x : Int) (W : World), Calls Try.prog 9 #[.int .i64 x] W fun e w' => e = .returned (.int .i64 x) ∧ w' = W) := num_any
  have HV : Hid (EntsR w (.slice a n c) l) := hv
  have HF : Hid (Octs w (.slice fa fn fc) fb) := hf
  obtain ⟨w0, hw0⟩ : ∃ w0, w0 = w.alloc (.cells #[.slice a n c, .int .i64 k, .slice fa fn fc] 48) := ⟨_, rfl⟩
  have HW0 : Hid (w.alloc (.cells #[.slice a n c, .int .i64 k, .slice fa fn fc] 48) = w0) := hw0.symm
  have B0 : Hid (w0.heap[w.heap.size]? = some (.cells #[.slice a n c, .int .i64 k, .slice fa fn fc] 48)) := by rw [hw0]; exact blk_new _ _
  have U0 : Hid (Below w.heap.size w w0) := by rw [hw0]; exact up_alloc _ _
  have HOF : Hid (∀ W, Below w.heap.size w W → Calls Try.prog 16 #[.agg #[.slice a n c, .int .i64 k, .slice fa fn fc]] W fun e w' => ∃ ea ec ga gc, e = .returned (.agg #[.slice ea n ec, .int .i64 k, .slice ga fn gc]) ∧ Hid (EntsR w' (.slice ea n ec) l) ∧ Hid (Octs w' (.slice ga fn gc) fb) ∧ Hid (Below W.heap.size W w')) := fun W h => of_any l fb k a n c fa fn fc W hn (HV.out.up h) (by omega) hfn (HF.out.up h) hfl
  have T1 : Hid (∀ (f t : ByteArray) (a : Option Addr) (c : Nat) (fa : Option Addr) (fc : Nat) (W : World), EntsR W (.slice a n c) l → Calls Try.prog 15 #[.agg #[.slice a n c, .int .i64 k, .slice fa fn fc], .string f, .string t] W fun e w' => ∃ ea en ec, e = .returned (.tuple #[.slice ea en ec, .int .i64 (betP l f t).2]) ∧ Hid (EntsR w' (.slice ea en ec) (betP l f t).1) ∧ Hid (Below W.heap.size W w')) := fun f t a c fa fc W h => by
    subst hn
    refine (PB.between l a c k fa fn fc f t W h (by omega)).mono ?_
    rintro e w' ⟨ea, en, ec, rfl, h1, h2, h3⟩
    exact ⟨ea, en, ec, rfl, Rws.own h2.out, h3⟩
  have T1a := hid (T1.out noB key)
  have T1b := hid (T1.out key noB)
  have hLA := bet_len l noB key
  have hLB := bet_len l key noB
  have HPT : Hid ((betP l noB key).2 = 0 → key.toList ≠ [] → (betP l noB key).1 ++ (betP l key noB).1 = l) := bet_parts
  have HAL : Hid ((betP l noB key).2 = 0 → key.toList = [] → (betP l noB key).1 = l ∧ (betP l key noB).1 = l) := bet_all
  have hEE := bet_err l key noB noB key
  rw [hEE] at T1b
  unfold noB at *
  clear hEE T1
  clear hv hw0 hf hfn P
  generalize (betP l ⟨#[]⟩ key).1 = A at *
  generalize (betP l key ⟨#[]⟩).1 = B at *
  generalize (betP l ⟨#[]⟩ key).2 = q at *
  have HLA : Hid (A.length ≤ n) := by unfold Hid; omega
  have HLB : Hid (B.length ≤ n) := by unfold Hid; omega
  have HNL : Hid (n = l.length) := hn
  clear hLA hLB hn
  go_enter Try.func6, Try.ntmps6
  go_upto_region 1 with fail
  rw [HW0.out]
  go_wp2_with fail
  refine (HP.out.alive _).mono ?_
  rintro e w1 ⟨rfl, u1⟩
  have V1 : Hid (Below w0.heap.size w0 w1) := u1
  have B1 := blk_up B0.out V1.out
  have p0 := blk_cell B1 0 _ rfl
  have p1 := blk_cell B1 1 _ rfl
  have p2 := blk_cell B1 2 _ rfl
  clear B1 u1
  go_wp2_with fail
  refine (HOF.out _ (up_trans U0.out V1.out)).mono ?_
  rintro e w2 ⟨ea, ec, ga, gc, rfl, E2, O2, u2⟩
  have V2 : Hid (Below w0.heap.size w0 w2) := up_trans V1.out u2.out
  clear V1 u2 p0 p1 p2
  go_wp2_with fail
  refine (T1a.out ea ec ga gc _ E2.out).mono ?_
  rintro e w3 ⟨ra, rn, rc, rfl, R3, u3⟩
  have V3 : Hid (Below w0.heap.size w0 w3) := up_trans V2.out u3.out
  clear V2 u3 E2 O2
  have B1 := blk_up B0.out V3.out
  have p0 := blk_cell B1 0 _ rfl
  have p1 := blk_cell B1 1 _ rfl
  have p2 := blk_cell B1 2 _ rfl
  clear B1
  go_wp2_with fail
  refine (HOF.out _ (up_trans U0.out V3.out)).mono ?_
  rintro e w4 ⟨ea4, ec4, ga4, gc4, rfl, E4, O4, u4⟩
  have V4 : Hid (Below w0.heap.size w0 w4) := up_trans V3.out u4.out
  have R4 : Hid (EntsR w4 (.slice ra rn rc) A) := EntsR.up R3.out u4.out
  clear V3 u4 p0 p1 p2 R3
  go_wp2_with fail
  refine (T1b.out ea4 ec4 ga4 gc4 _ E4.out).mono ?_
  rintro e w5 ⟨sa, sn, sc, rfl, S5, u5⟩
  have V5 : Hid (Below w0.heap.size w0 w5) := up_trans V4.out u5.out
  have R5 : Hid (EntsR w5 (.slice ra rn rc) A) := EntsR.up R4.out u5.out
  have U5 : Hid (Below w.heap.size w w5) := up_trans U0.out V5.out
  clear V4 u5 E4 O4 R4
  by_cases hq : q = 0
  · subst hq
    have B1 := blk_up B0.out V5.out
    have p0 := blk_cell B1 0 _ rfl
    clear B1
    by_cases hk : key.toList = []
    · have hkb : (key.toList == []) = true := by rw [hk]; rfl
      obtain ⟨e1, e2⟩ := HAL.out rfl hk
      subst e1
      have S5' : Hid (EntsR w5 (.slice sa sn sc) A) := by rw [e2] at S5; exact S5
      have HSM := hid (sameEnts_self A _ _ _ R5.out S5'.out)
      clear HPT HAL e2 S5 T1a T1b HLA HLB
      go_wp2_with fail
      refine (HN.out _ _).mono ?_
      rintro e w6 ⟨rfl, rfl⟩
      go_wp2_with fail
      refine (HN.out _ _).mono ?_
      rintro e w7 ⟨rfl, rfl⟩
      go_wp2_with fail
      refine HSM.out.mono ?_
      rintro e w8 ⟨rfl, d, rfl⟩
      have V8 : Hid (Below w7.heap.size w7 (w7.drewN d)) := up_drewN _ d
      have R8 := hid (EntsR.up R5.out V8.out)
      have U8 : Hid (Below w.heap.size w (w7.drewN d)) := up_trans U5.out V8.out
      have B8 := blk_up (blk_up B0.out V5.out) V8.out
      have r0 := blk_cell B8 0 _ rfl
      clear B8 p0 HSM
      generalize w7.drewN d = w8 at *
      have HSM := hid (sameEnts_self A _ _ _ R8.out (HV.out.up U8.out))
      go_wp2_with fail
      refine HSM.out.mono ?_
      rintro e w9 ⟨rfl, d, rfl⟩
      go_wp2
      go_ret
      exact ⟨rfl, up_trans U8.out (up_drewN _ d)⟩
    · have hkb : (key.toList == []) = false := by simpa using hk
      have HAB : Hid (A ++ B = l) := HPT.out rfl hk
      have HC9 : Hid (∀ W : World, Below w5.heap.size w5 W → Calls Try.prog 17 #[.slice ra rn rc] W fun e w' => ∃ a' n' c', e = .returned (.slice a' n' c') ∧ Hid (OwnR w' w5.heap.size 39 4 (.slice a' n' c') (A.map enRow)) ∧ Hid (Below w5.heap.size w5 w') ∧ w'.cell? ⟨w.heap.size, 0, none⟩ = some (.slice a n c)) := fun W h => by
        refine (copyEnts_own A _ W (EntsR.up R5.out h) (by have := HLA.out; omega)).mono ?_
        rintro e w' ⟨a', n', c', rfl, h1, h2⟩
        exact ⟨a', n', c', rfl, OwnR.mono h1 h.size, up_trans h h2, blk_cell (blk_up (blk_up B0.out V5.out) (up_trans h h2)) 0 _ rfl⟩
      have HAP : Hid (((A.map enRow).length + (B.map enRow).length + ((A.map enRow).length + (B.map enRow).length) / 4 + 192) * 48 ≤ 281474976710656 ∧ (A.map enRow).length + (B.map enRow).length ≤ maxLen) := by
        have h1 := congrArg List.length HAB.out
        rw [List.length_append, ← HNL.out] at h1
        unfold Hid maxLen; simp only [List.length_map]; omega
      have HS20 : Hid (∀ (v : Value) (W : World), OwnR W w5.heap.size 39 4 v (A.map enRow ++ B.map enRow) → Below w5.heap.size w5 W → Calls Try.prog 11 #[v, .slice a n c] W fun e w' => e = .returned (.bool true) ∧ Hid (Below w5.heap.size w5 w') ∧ w'.cell? ⟨w.heap.size, 0, none⟩ = some (.slice a n c)) := fun v W h hb => by
        refine (sameEnts_self l _ _ W (by have := Rws.own h; rw [← List.map_append, HAB.out] at this; exact this) (HV.out.up (up_trans U5.out hb))).mono ?_
        rintro e w' ⟨rfl, d, rfl⟩
        exact ⟨rfl, up_trans hb (up_drewN _ d), blk_cell (blk_up (blk_up B0.out V5.out) (up_trans hb (up_drewN _ d))) 0 _ rfl⟩
      have B5 : Hid (w5.heap[w.heap.size]? = some (.cells #[.slice a n c, .int .i64 k, .slice fa fn fc] 48)) := blk_up B0.out V5.out
      clear HPT HAL T1a T1b hk HOF
      go_wp2_with fail
      refine (HN.out _ _).mono ?_
      rintro e w6 ⟨rfl, rfl⟩
      go_wp2_with fail
      refine (HN.out _ _).mono ?_
      rintro e w7 ⟨rfl, rfl⟩
      have u0d : Below w7.heap.size w7 w7.drew := up_dr (Below.refl _ _)
      go_wp2_with fail
      go_region_held3 (fun w' => w'.cell? ⟨w.heap.size, 0, none⟩ = some (.slice a n c)) (first | with_reducible exact z2 | with_reducible exact z1 | with_reducible exact z0 | with_reducible exact p0 | (simp [go_sem, p0]; done)) (first
        | (go_at_call 17; with_reducible refine (HC9.out _ u0d).mono ?_; rintro e w8 ⟨ca, cn, cc, rfl, C8, v8, z0⟩)
        | (refine step_append_rows w8 (by rfl) _ _ 22 39 _ 4 48 (by rfl) Try.underlying22 Try.info39 (by rfl) (by decide) w7.heap.size (.slice ca cn cc) (A.map enRow) (by rfl) (by with_reducible exact C8.out) (.slice sa sn sc) (B.map enRow) (by rfl) (EntsR.up S5.out v8.out) (rows_oneP B) HAP.out.1 HAP.out.2 v8.out.size ?_; intro v9 w9 o9 g9; have D9 : Hid (Below w7.heap.size w7 w9) := v8.out.grown g9 v8.out.size (fun j hj => (C8.out.2.lt j hj).1); have z1 : w9.cell? ⟨w.heap.size, 0, none⟩ = some (.slice a n c) := blk_cell (blk_up B5.out D9.out) 0 _ rfl; have O9 : Hid (OwnR w9 w7.heap.size 39 4 v9 (A.map enRow ++ B.map enRow)) := o9; clear o9 g9)
        | (go_at_call 11; with_reducible refine (HS20.out _ _ O9.out D9.out).mono ?_; rintro e w10 ⟨rfl, v10, z2⟩))
      all_goals
        go_wp2_with fail
        go_ret
        exact ⟨rfl, up_trans U5.out v10.out⟩
  · have hq1 : (q == 0) = false := by simp [hq]
    have hq2 : (q != 0) = true := by simp [hq]
    clear HPT HAL
    go_wp2_with fail
    refine (HN.out _ _).mono ?_
    rintro e w6 ⟨rfl, rfl⟩
    go_wp2_with fail
    refine (HN.out _ _).mono ?_
    rintro e w7 ⟨rfl, rfl⟩
    go_wp2_with fail
    refine (HN.out _ _).mono ?_
    rintro e w8 ⟨rfl, rfl⟩
    go_wp2
    go_ret
    exact ⟨rfl, U5.out⟩
end Go.Proofs.Ytekoniaobmapdaa
