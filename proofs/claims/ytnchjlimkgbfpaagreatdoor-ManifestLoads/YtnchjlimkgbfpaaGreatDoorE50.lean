/- The texts OOrr, T5, AL, HLiv, in this order. -/
import Derived.Test.YtnchjlimkgbfpaaGreatDoorE49
import Derived.Test.YtnchjlimkgbfpaaGreatDoorHRfp
import Derived.Test.YtnchjlimkgbfpaaGreatDoorE42
import Derived.Test.YtnchjlimkgbfpaaGreatDoorE15
import Derived.Deep.Cut
import Derived.Test.YtnchjlimkgbfpaaGreatDoorE31
import Derived.Test.YtnchjlimkgbfpaaGreatDoorE22
import Derived.Deep.RegionHeld3

namespace Go.Proofs.YtnchjlimkgbfpaaGreatDoor
open Go.RowKit
set_option linter.unusedVariables false
set_option linter.unusedSimpArgs false
set_option maxRecDepth 20000
set_option maxHeartbeats 2000000 in
theorem inTab_any (ts : List Me) (seq next id : Int) (va : Option Addr) (vn vc : Nat) (w : World) (hv : MetsR w (.slice va vn vc) ts) :
    Calls Tryz.prog 63 #[.agg #[.slice va vn vc, .int .i64 seq, .int .i64 next], .int .i64 id] w fun e w' => e = .returned (.bool (decide (id ∈ ts.map (·.id)))) ∧ Hid (Below w.heap.size w w') := by
  obtain ⟨va', vc', e', h1, h2⟩ := hv.len
  simp only [Value.slice.injEq] at e'
  obtain ⟨rfl, rfl, rfl⟩ := e'
  have ht63 : (ts.length : Int) ≤ 9223372036854775807 := by unfold maxLen at h2; omega
  have HV : Hid (MetsR w (.slice va ts.length vc) ts) := hv
  obtain ⟨w1, hw1⟩ : ∃ w1, w1 = w.alloc (.cells #[.slice va ts.length vc, .int .i64 seq, .int .i64 next] 28) := ⟨_, rfl⟩
  have HW1 : Hid (w.alloc (.cells #[.slice va ts.length vc, .int .i64 seq, .int .i64 next] 28) = w1) := hid hw1.symm
  have U1 : Hid (Below w.heap.size w w1) := by rw [hw1]; exact up_alloc _ _
  have B1 : Hid (w1.heap[w.heap.size]? = some (.cells #[.slice va ts.length vc, .int .i64 seq, .int .i64 next] 28)) := by rw [hw1]; exact blk_new _ _
  have V1 := hid (HV.out.up U1.out)
  have x0 := blk_cell B1.out 0 _ rfl
  obtain ⟨qq, hqq⟩ : ∃ qq : Bool, qq = decide (id ∈ ts.map (·.id)) := ⟨_, rfl⟩
  rw [← hqq]
  have HEx : Hid (∀ b : Bool, (b = true ↔ id ∈ ts.map (·.id)) → b = qq) := by
    intro b hb
    rw [hqq]
    cases b with
    | true => simp [hb.1 rfl]
    | false =>
      have : ¬ id ∈ ts.map (·.id) := fun q => by have := hb.2 q; cases this
      simp [this]
  clear hv hw1 h1 h2 HV hqq
  go_enter Tryz.func63, Tryz.ntmps63
  go_upto_region 1 with fail
  rw [HW1.out]
  clear HW1
  go_wp2_with fail
  go_loopw [5] (fun s5 wr => ∃ k : Nat, k ≤ ts.length ∧ s5 = .int .i64 (k : Int) ∧ wr = w1 ∧ Hid (∀ m ∈ ts.take k, m.id ≠ id)) (fun s5 _ => ts.length - (intOf s5).toNat)
  case atStart => exact ⟨0, Nat.zero_le _, rfl, rfl, fun m hm => by simp at hm⟩
  case round =>
    obtain ⟨k, hk, rfl, hwr, HN⟩ := hrel
    subst hwr
    by_cases hlt : k < ts.length
    · have hlt' : (k : Int) < (ts.length : Int) := by omega
      obtain ⟨b, off, cap, x, e, hx, c0, c1, c2, c3, c4⟩ := V1.out.at k hlt
      simp at e
      obtain ⟨rfl, rfl⟩ := e
      by_cases hq : x.id = id
      · have hq' : (x.id == id) = true := by simpa using hq
        have HR := hid (HEx.out true ⟨fun _ => List.mem_map.2 ⟨x, List.mem_of_getElem? hx, hq⟩, fun _ => rfl⟩)
        clear hx HN
        go_wp2_with fail
        go_ret
        exact ⟨ret_bool HR.out, U1⟩
      · have hq' : (x.id == id) = false := by simpa using hq
        have HN2 : Hid (∀ m ∈ ts.take (k + 1), m.id ≠ id) := by
          intro m hm
          rw [List.take_add_one, hx] at hm
          rcases List.mem_append.1 hm with h | h
          · exact HN.out m h
          · simp at h; subst h; exact hq
        clear hx hq
        go_wp2_with fail
        exact ⟨⟨k + 1, by omega, by go_num, by first | rfl | trivial, HN2⟩, by simp [intOf]; omega⟩
    · have hlt' : ¬ (k : Int) < (ts.length : Int) := by omega
      have HR := hid (HEx.out false ⟨fun q => (by cases q), fun q => by
        obtain ⟨m, hm, e⟩ := List.mem_map.1 q
        have := HN.out
        rw [List.take_of_length_le (by omega)] at this
        exact absurd e (this m hm)⟩)
      go_wp2_with fail
      go_ret
      exact ⟨ret_bool HR.out, U1⟩
theorem parR_need (ids : List Int) (id log : Int) (x : List Int) : ∃ (k n : Int) (b : Bool), parR (parseN x) = .tuple #[.int .u8 k, .int .i64 n, .bool b] ∧ needOf ids id log x = (decide (x = curN) || (b && ((decide (k = 109) && decide (n = id)) || ((decide (k = 108) && decide (log ≤ n)) || (decide (k = 116) && decide (n ∈ ids)))))) := by
  unfold needOf
  cases h : parseN x with
  | none => exact ⟨0, 0, false, rfl, by simp⟩
  | some q => exact ⟨q.1, q.2, true, rfl, by simp⟩
theorem stay_need (ts : List Me) (id log : Int) (x : List Int) : stayB (needL (ts.map (·.id)) id) log x = !(needOf (ts.map (·.id)) id log x) := by
  unfold stayB nedB
  rw [need_eq]
theorem srow_one (x : List Int) : ∀ u ∈ srow x, u.oneCell' = true := by
  intro u hu
  simp [srow] at hu
  subst hu
  rfl
theorem rows_shapeO {w : World} {base : Nat} {e : TypeId} {sz : Nat} {v : Value} {css : List (List Value)} (h : OwnR w base e sz v css) : ∃ a n c, v = .slice a n c ∧ Hid (OwnR w base e sz (.slice a n c) css) := by
  obtain ⟨a, c, e', _, _⟩ := (Rws.own h).len
  exact ⟨a, _, c, e', by rw [← e']; exact h⟩
theorem own_grownO {w x W : World} {B : Nat} {e : TypeId} {sz : Nat} {v : Value} {css : List (List Value)} (h : OwnR x B e sz v css) (hb : Below B w x) (hs : B ≤ x.heap.size) (hg : x.grownBy W v.ownBlock) : Below B w W :=
  hb.grown hg hs (fun k hk => (h.2.lt k hk).1)
set_option maxHeartbeats 8000000 in
set_option maxRecDepth 100000 in
theorem refOrph_any (s : St) (v : Value) (ts : List Me) (seq next id log : Int) (va : Option Addr) (vn vc : Nat) (w : World) (hv : StW w v s) (hm : MetsR w (.slice va vn vc) ts) :
    Calls Tryz.prog 22 #[v, .agg #[.slice va vn vc, .int .i64 seq, .int .i64 next], .int .i64 id, .int .i64 log] w fun e w' => ∃ a n c, e = .returned (.tuple #[.slice a n c, .int .i64 (orphP s ts id log).2]) ∧ Hid (Rws 1 w' (.slice a n c) ((orphP s ts id log).1.map srow)) ∧ Hid (Below w.heap.size w w') := by
  have HNm := hid (list_names hv)
  obtain ⟨af, nf, cf, an, nn, cn, as', ns, cs', ev⟩ := hv.shape
  subst ev
  have HM : Hid (MetsR w (.slice va vn vc) ts) := hm
  obtain ⟨w1, hw1⟩ : ∃ w1, w1 = (w.alloc (.cells #[.int .i64 s.cap, .slice af nf cf, .slice an nn cn, .slice as' ns cs', .int .i64 s.next] 25)).alloc (.cells #[.slice va vn vc, .int .i64 seq, .int .i64 next] 28) := ⟨_, rfl⟩
  have HW1 : Hid ((w.alloc (.cells #[.int .i64 s.cap, .slice af nf cf, .slice an nn cn, .slice as' ns cs', .int .i64 s.next] 25)).alloc (.cells #[.slice va vn vc, .int .i64 seq, .int .i64 next] 28) = w1) := hid hw1.symm
  have U1 : Hid (Below w.heap.size w w1) := by rw [hw1]; exact up_al (up_alloc _ _) _
  have B1 : Hid (w1.heap[w.heap.size]? = some (.cells #[.int .i64 s.cap, .slice af nf cf, .slice an nn cn, .slice as' ns cs', .int .i64 s.next] 25)) := by rw [hw1]; exact blk_up (blk_new _ _) (up_alloc _ _)
  have B2 : Hid (w1.heap[w.heap.size + 1]? = some (.cells #[.slice va vn vc, .int .i64 seq, .int .i64 next] 28)) := by
    rw [hw1]
    have := blk_new (w.alloc (.cells #[.int .i64 s.cap, .slice af nf cf, .slice an nn cn, .slice as' ns cs', .int .i64 s.next] 25)) (.cells #[.slice va vn vc, .int .i64 seq, .int .i64 next] 28)
    rw [show (w.alloc (.cells #[.int .i64 s.cap, .slice af nf cf, .slice an nn cn, .slice as' ns cs', .int .i64 s.next] 25)).heap.size = w.heap.size + 1 by simp] at this
    exact this
  have HLs := hid (refList_any s _ w1 (hv.up U1.out))
  have HPd : Hid (orphP s ts id log = if checkP s then ((s.names.map (·.1)).filter (stayB (needL (ts.map (·.id)) id) log), 0) else ([], 9)) := rfl
  have HLd : Hid (listP s = if checkP s then (s.names.map (·.1), 0) else ([], 9)) := rfl
  have x0 := blk_cell B1.out 0 _ rfl
  have x1 := blk_cell B1.out 1 _ rfl
  have x2 := blk_cell B1.out 2 _ rfl
  have x3 := blk_cell B1.out 3 _ rfl
  have x4 := blk_cell B1.out 4 _ rfl
  clear hv hm hw1 B1
  go_enter Tryz.func22, Tryz.ntmps22
  go_upto_region 1 with fail
  rw [HW1.out]
  clear HW1
  generalize hN1 : w.heap.size + 1 = N1 at *
  clear hN1
  cases hchk : checkP s with
  | false =>
    rw [hchk] at HPd HLd
    simp only [Bool.false_eq_true, if_false] at HPd HLd
    rw [HLd.out] at HLs
    clear HLd hchk
    go_wp2_with fail
    refine HLs.out.mono ?_
    rintro e w2 ⟨v2, rfl, o2, b2⟩
    have U2 : Hid (Below w.heap.size w w2) := up_trans U1.out b2
    obtain ⟨a2, c2, e2, -, -⟩ := (Rws.own o2).len
    subst e2
    clear o2 b2 HLs x0 x1 x2 x3 x4
    go_wp2_with fail
    go_ret2
    rw [HPd.out]
    exact ⟨_, _, _, rfl, Rws.nil _ _, U2⟩
  | true =>
    rw [hchk] at HPd HLd
    simp only [if_true] at HPd HLd
    have HLen : Hid ((s.names.map (·.1)).length ≤ 4398046511104) := by
      have := (check_sound hchk).1.1
      have h2 := names_len (check_parts hchk).2.2.1
      rw [List.length_map]
      unfold Hid
      omega
    rw [HLd.out] at HLs
    simp only at HLs
    clear HLd hchk
    obtain ⟨all, hall⟩ : ∃ all, all = s.names.map (·.1) := ⟨_, rfl⟩
    rw [← hall] at HLs HLen HNm HPd
    have HST : Hid (∀ x, stayB (needL (ts.map (·.id)) id) log x = !(needOf (ts.map (·.id)) id log x)) := fun x => stay_need ts id log x
    obtain ⟨p, hp⟩ : ∃ p, p = stayB (needL (ts.map (·.id)) id) log := ⟨_, rfl⟩
    rw [← hp] at HST HPd
    clear hall hp
    have HCurC : Hid (∀ x, (∀ y ∈ x, 0 ≤ y ∧ y ≤ 255) → ((strOfNums x).toList == ([67, 85, 82, 82, 69, 78, 84] : List UInt8)) = decide (x = curN)) := by
      intro x hx
      rw [show ([67, 85, 82, 82, 69, 78, 84] : List UInt8) = (strOfNums curN).toList from by rw [str_list]; rfl]
      exact str_eq x curN hx (by unfold curN; intro y hy; simp at hy; omega)
    go_wp2_with fail
    refine HLs.out.mono ?_
    rintro e w2 ⟨v2, rfl, o2, b2⟩
    have U2 : Hid (Below w.heap.size w w2) := up_trans U1.out b2
    have R2 : Hid (Rws 1 w2 v2 (all.map srow)) := Rws.own o2
    have B22 := hid (blk_up B2.out b2)
    obtain ⟨a2, c2, e2, -, -⟩ := (Rws.own o2).len
    rw [List.length_map] at e2
    subst e2
    have ha63 : (all.length : Int) ≤ 9223372036854775807 := by have := HLen.out; omega
    clear o2 b2 HLs x0 x1 x2 x3 x4 B2
    go_wp2_with fail
    go_loopw [12, 13] (fun s12 s13 wr => ∃ (i : Nat) (ao : Option Addr) (no co : Nat), i ≤ all.length ∧ s13 = .int .i64 (i : Int) ∧ s12 = .slice ao no co ∧ Hid (OwnR wr w2.heap.size 9 1 (.slice ao no co) (((all.take i).filter p).map srow)) ∧ Hid (Below w2.heap.size w2 wr)) (fun _ s13 _ => all.length - (intOf s13).toNat)
    case atStart => exact ⟨0, none, 0, 0, Nat.zero_le _, rfl, rfl, OwnR.nil _ _ _ _, Below.refl _ _⟩
    case round =>
      obtain ⟨i, ao, no, co, hi, rfl, rfl, HO, HU⟩ := hrel
      by_cases hlt : i < all.length
      · have hlt' : (i : Int) < (all.length : Int) := by omega
        have hmem : all.getD i [] ∈ all := by
          rw [List.getD_eq_getElem?_getD, List.getElem?_eq_getElem hlt]
          exact List.getElem_mem _
        have HX := hid (HNm.out _ hmem)
        have HTk : Hid (all.take (i + 1) = all.take i ++ [all.getD i []]) := take_snoc all i [] hlt
        have HFl : Hid (((all.take i).filter p).length ≤ i) := by
          have h1 := List.length_filter_le p (all.take i)
          rw [List.length_take] at h1
          unfold Hid
          omega
        obtain ⟨b, off, cap', e, c0⟩ := srow_at (R2.out.up HU.out) i hlt
        simp at e
        obtain ⟨rfl, rfl⟩ := e
        have HCu := hid (HCurC.out _ HX.out.1)
        have HSTx := HST.out (all.getD i [])
        obtain ⟨pk, pn, pb, hpr, hnd⟩ := parR_need (ts.map (·.id)) id log (all.getD i [])
        rw [hnd] at HSTx
        have HPar : Hid (∀ W, Calls Tryz.prog 62 #[.string (strOfNums (all.getD i []))] W fun e w'' => e = .returned (.tuple #[.int .u8 pk, .int .i64 pn, .bool pb]) ∧ Below W.heap.size W w'') := by
          intro W
          have := refParse_any (all.getD i []) HX.out.1 HX.out.2 W
          rw [hpr] at this
          exact this
        have HSX := hid HSTx
        clear hpr hnd HSTx hmem
        generalize all.getD i [] = x at *
        obtain ⟨cu, hcu⟩ : ∃ cu : Bool, cu = decide (x = curN) := ⟨_, rfl⟩
        rw [← hcu] at HCu HSX
        clear hcu
        have HPx : Hid (((all.take (i + 1)).filter p).map srow = ((all.take i).filter p).map srow ++ (if p x then [srow x] else [])) := by
          unfold Hid
          rw [HTk.out, List.filter_append, List.map_append]
          congr 1
          by_cases q : p x = true
          · simp [q]
          · simp [q]
        clear HTk
        go_wp2_with fail
        refine (HPar.out _).mono ?_
        rintro e w9 ⟨rfl, hb9⟩
        have up9 : Hid (Below w2.heap.size w2 w9) := up_trans HU.out hb9
        have HO9 := hid (HO.out.up hb9)
        have HMx := hid (HM.out.up (up_trans U2.out up9.out))
        have c0 := (hb9.cell (p := ⟨b, off + i, none⟩) (World.block_lt_of_cell? wr _ c0)).trans c0
        have hcu := HCu.out
        have y0 := blk_cell (blk_up B22.out up9.out) 0 _ rfl
        have y1 := blk_cell (blk_up B22.out up9.out) 1 _ rfl
        have y2 := blk_cell (blk_up B22.out up9.out) 2 _ rfl
        clear HPar hb9 HO HU
        have hin := inTab_any ts seq next pn va vn vc w9 HMx.out
        have HIn := hid hin
        clear hin
        have HAdd : Hid (p x = true → ((all.take (i + 1)).filter p).map srow = ((all.take i).filter p).map srow ++ [srow x]) := by
          intro q
          rw [HPx.out, if_pos q]
        have HSkp := HPx
        clear HPx
        obtain ⟨inT, hinT⟩ : ∃ inT : Bool, inT = decide (pn ∈ ts.map (·.id)) := ⟨_, rfl⟩
        rw [← hinT] at HIn HSX
        clear hinT
        have HSk0 : Hid (p x = false → ((all.take (i + 1)).filter p).map srow = ((all.take i).filter p).map srow) := by
          intro q
          have h := HSkp.out
          rw [if_neg (by rw [q]; decide), List.append_nil] at h
          exact h
        clear HSkp
        have HSm : Hid (∀ W : World, Rws 1 (W.alloc (.cells #[.string (strOfNums x)] 9)) (.slice (some ⟨W.heap.size, 0, none⟩) 1 1) [srow x]) := fun W => Rws.made (sz := 1) W 9 [srow x] (by intro cs hcs; simp at hcs; subst hcs; rfl) (by simp [maxLen])
        have HSr : Hid (Rws 1 (w9.alloc (.cells #[.string (strOfNums x)] 9)) (.slice (some ⟨w9.heap.size, 0, none⟩) 1 1) [srow x]) := Rws.made (sz := 1) w9 9 [srow x] (by intro cs hcs; simp at hcs; subst hcs; rfl) (by simp [maxLen])
        generalize hS : strOfNums x = S at *
        clear hS
        have HSk : Hid (p x = false → ((all.take (i + 1)).filter p).map srow = ((all.take i).filter p).map srow) := HSk0
        have HOn : Hid (∀ cs ∈ [srow x], ∀ u ∈ cs, u.oneCell' = true) := by
          intro cs hcs
          rw [List.mem_singleton] at hcs
          subst hcs
          exact srow_one x
        have HBn : Hid ((((((all.take i).filter p).map srow).length + 1) + ((((all.take i).filter p).map srow).length + 1) / 4 + 192) * 16 ≤ 281474976710656 ∧ (((all.take i).filter p).map srow).length + 1 ≤ maxLen) := by
          have := HFl.out
          have := HLen.out
          unfold Hid maxLen
          rw [List.length_map]
          omega
        have hi63 : (i : Int) + 1 ≤ 9223372036854775807 := by omega
        cases cu with
        | true =>
          have HPn := hid (HSk.out (by rw [HSX.out]; simp [*]))
          go_wp2_with fail
          exact ⟨⟨i + 1, ao, no, co, by omega, by go_num, rfl, by rw [HPn.out]; exact HO9.out, up9⟩, by simp [intOf]; omega⟩
        | false =>
          cases pb with
          | false =>
            have HPn := hid (HAdd.out (by rw [HSX.out]; simp [*]))
            have HOa := hid (HO9.out.up (up_alloc w9 (.cells #[.string S] 9)))
            have Ua : Hid (Below w2.heap.size w2 (w9.alloc (.cells #[.string S] 9))) := up_al up9.out _
            go_wp2_with (at_builtin; refine wpList_append_rows _ rfl _ _ 62 9 _ 1 16 rfl Tryz.underlying62 Tryz.info9 rfl (by decide) w2.heap.size (.slice ao no co) (((all.take i).filter p).map srow) rfl HOa.out (.slice (some ⟨w9.heap.size, 0, none⟩) 1 1) [srow x] rfl HSr.out HOn.out HBn.out.1 HBn.out.2 Ua.out.size ?_; intro vb wb ob gb; obtain ⟨ab, nb, cb, evb, ob⟩ := rows_shapeO ob; subst evb; have Ub := hid (own_grownO HOa.out Ua.out Ua.out.size gb))
            exact ⟨⟨i + 1, ab, nb, cb, by omega, by go_num, rfl, by rw [HPn.out]; exact ob, Ub⟩, by simp [intOf]; omega⟩
          | true =>
            by_cases k1 : pk = 109
            · subst k1
              by_cases k2 : pn = id
              · have k2b : (pn == id) = true := by simpa using k2
                have HPn := hid (HSk.out (by rw [HSX.out]; simp [*]))
                go_wp2_with fail
                exact ⟨⟨i + 1, ao, no, co, by omega, by go_num, rfl, by rw [HPn.out]; exact HO9.out, up9⟩, by simp [intOf]; omega⟩
              · have k2b : (pn == id) = false := by simpa using k2
                have HPn := hid (HAdd.out (by rw [HSX.out]; simp [*]))
                have HOa := hid (HO9.out.up (up_alloc w9 (.cells #[.string S] 9)))
                have Ua : Hid (Below w2.heap.size w2 (w9.alloc (.cells #[.string S] 9))) := up_al up9.out _
                go_wp2_with (at_builtin; refine wpList_append_rows _ rfl _ _ 62 9 _ 1 16 rfl Tryz.underlying62 Tryz.info9 rfl (by decide) w2.heap.size (.slice ao no co) (((all.take i).filter p).map srow) rfl HOa.out (.slice (some ⟨w9.heap.size, 0, none⟩) 1 1) [srow x] rfl HSr.out HOn.out HBn.out.1 HBn.out.2 Ua.out.size ?_; intro vb wb ob gb; obtain ⟨ab, nb, cb, evb, ob⟩ := rows_shapeO ob; subst evb; have Ub := hid (own_grownO HOa.out Ua.out Ua.out.size gb))
                exact ⟨⟨i + 1, ab, nb, cb, by omega, by go_num, rfl, by rw [HPn.out]; exact ob, Ub⟩, by simp [intOf]; omega⟩
            · have k1b : (pk == 109) = false := by simpa using k1
              by_cases k3 : pk = 108
              · subst k3
                by_cases k4 : log ≤ pn
                ·
                  have HPn := hid (HSk.out (by rw [HSX.out]; simp [*]))
                  go_wp2_with fail
                  exact ⟨⟨i + 1, ao, no, co, by omega, by go_num, rfl, by rw [HPn.out]; exact HO9.out, up9⟩, by simp [intOf]; omega⟩
                · have k4b : (log ≤ pn) = False := eq_false k4
                  clear k4
                  have HPn := hid (HAdd.out (by rw [HSX.out]; simp [*]))
                  have HOa := hid (HO9.out.up (up_alloc w9 (.cells #[.string S] 9)))
                  have Ua : Hid (Below w2.heap.size w2 (w9.alloc (.cells #[.string S] 9))) := up_al up9.out _
                  go_wp2_with (at_builtin; refine wpList_append_rows _ rfl _ _ 62 9 _ 1 16 rfl Tryz.underlying62 Tryz.info9 rfl (by decide) w2.heap.size (.slice ao no co) (((all.take i).filter p).map srow) rfl HOa.out (.slice (some ⟨w9.heap.size, 0, none⟩) 1 1) [srow x] rfl HSr.out HOn.out HBn.out.1 HBn.out.2 Ua.out.size ?_; intro vb wb ob gb; obtain ⟨ab, nb, cb, evb, ob⟩ := rows_shapeO ob; subst evb; have Ub := hid (own_grownO HOa.out Ua.out Ua.out.size gb))
                  exact ⟨⟨i + 1, ab, nb, cb, by omega, by go_num, rfl, by rw [HPn.out]; exact ob, Ub⟩, by simp [intOf]; omega⟩
              · have k3b : (pk == 108) = false := by simpa using k3
                by_cases k5 : pk = 116
                · subst k5
                  go_wp2_with fail
                  refine HIn.out.mono ?_
                  rintro e wz ⟨rfl, bz⟩
                  have upz : Hid (Below w2.heap.size w2 wz) := up_trans up9.out bz.out
                  have HOz := hid (HO9.out.up bz.out)
                  have c0 := (bz.out.cell (p := ⟨b, off + i, none⟩) (World.block_lt_of_cell? w9 _ c0)).trans c0
                  have HSz : Hid (Rws 1 (wz.alloc (.cells #[.string S] 9)) (.slice (some ⟨wz.heap.size, 0, none⟩) 1 1) [srow x]) := HSm.out wz
                  clear bz y0 y1 y2
                  cases inT with
                  | true =>
                    have HPn := hid (HSk.out (by rw [HSX.out]; simp [*]))
                    go_wp2_with fail
                    exact ⟨⟨i + 1, ao, no, co, by omega, by go_num, rfl, by rw [HPn.out]; exact HOz.out, upz⟩, by simp [intOf]; omega⟩
                  | false =>
                    have HPn := hid (HAdd.out (by rw [HSX.out]; simp [*]))
                    have HOa := hid (HOz.out.up (up_alloc wz (.cells #[.string S] 9)))
                    have Ua : Hid (Below w2.heap.size w2 (wz.alloc (.cells #[.string S] 9))) := up_al upz.out _
                    go_wp2_with (at_builtin; refine wpList_append_rows _ rfl _ _ 62 9 _ 1 16 rfl Tryz.underlying62 Tryz.info9 rfl (by decide) w2.heap.size (.slice ao no co) (((all.take i).filter p).map srow) rfl HOa.out (.slice (some ⟨wz.heap.size, 0, none⟩) 1 1) [srow x] rfl HSz.out HOn.out HBn.out.1 HBn.out.2 Ua.out.size ?_; intro vb wb ob gb; obtain ⟨ab, nb, cb, evb, ob⟩ := rows_shapeO ob; subst evb; have Ub := hid (own_grownO HOa.out Ua.out Ua.out.size gb))
                    exact ⟨⟨i + 1, ab, nb, cb, by omega, by go_num, rfl, by rw [HPn.out]; exact ob, Ub⟩, by simp [intOf]; omega⟩
                · have k5b : (pk == 116) = false := by simpa using k5
                  have HPn := hid (HAdd.out (by rw [HSX.out]; simp [*]))
                  have HOa := hid (HO9.out.up (up_alloc w9 (.cells #[.string S] 9)))
                  have Ua : Hid (Below w2.heap.size w2 (w9.alloc (.cells #[.string S] 9))) := up_al up9.out _
                  go_wp2_with (at_builtin; refine wpList_append_rows _ rfl _ _ 62 9 _ 1 16 rfl Tryz.underlying62 Tryz.info9 rfl (by decide) w2.heap.size (.slice ao no co) (((all.take i).filter p).map srow) rfl HOa.out (.slice (some ⟨w9.heap.size, 0, none⟩) 1 1) [srow x] rfl HSr.out HOn.out HBn.out.1 HBn.out.2 Ua.out.size ?_; intro vb wb ob gb; obtain ⟨ab, nb, cb, evb, ob⟩ := rows_shapeO ob; subst evb; have Ub := hid (own_grownO HOa.out Ua.out Ua.out.size gb))
                  exact ⟨⟨i + 1, ab, nb, cb, by omega, by go_num, rfl, by rw [HPn.out]; exact ob, Ub⟩, by simp [intOf]; omega⟩
      · have hlt' : ¬ (i : Int) < (all.length : Int) := by omega
        have HOe : Hid (Rws 1 wr (.slice ao no co) ((all.filter p).map srow)) := by
          have := Rws.own HO.out
          rw [List.take_of_length_le (by omega)] at this
          exact this
        go_wp2_with fail
        go_ret2
        rw [HPd.out]
        exact ⟨_, _, _, rfl, HOe, up_trans U2.out HU.out⟩
end Go.Proofs.YtnchjlimkgbfpaaGreatDoor

namespace Go.Proofs.YtnchjlimkgbfpaaGreatDoor
open Go.RowKit
set_option linter.unusedVariables false
set_option maxRecDepth 20000
set_option linter.unusedSimpArgs false
set_option maxHeartbeats 2000000 in
theorem sameNames_self (l : List (List Int × Int)) (v u : Value) (w : World) (hv : NamesW w v l) (hu : NamesW w u l) :
    Calls Tryz.prog 47 #[v, u] w fun e w' => e = .returned (.bool true) ∧ Below w.heap.size w w' := by
  have HV : Hid (NamesW w v l ∧ NamesW w u l) := ⟨hv, hu⟩
  obtain ⟨a1, c1, e1, _, m1⟩ := hv.len
  obtain ⟨a2, c2, e2, _, m2⟩ := hu.len
  subst e1
  subst e2
  have hl63 : l.length ≤ 9223372036854775807 := by unfold maxLen at m1; omega
  clear hv hu
  go_enter Tryz.func47, Tryz.ntmps47
  go_wp2_with fail
  go_loopw [5] (fun i wr => ∃ k : Nat, k ≤ l.length ∧ i = .int .i64 k ∧ Hid (Below w.heap.size w wr)) (fun i _ => l.length - (intOf i).toNat)
  case atStart => exact ⟨0, Nat.zero_le _, rfl, Below.refl _ _⟩
  case round =>
    obtain ⟨k, hk, rfl, up⟩ := hrel
    by_cases hlt : k < l.length
    · have hlt' : (k : Int) < (l.length : Int) := by omega
      obtain ⟨b, off, cap, e, _, _, z0, z1, _⟩ := (HV.out.1.up up.out).at k hlt
      obtain ⟨b', off', cap', e', _, _, y0, y1, _⟩ := (HV.out.2.up up.out).at k hlt
      simp at e e'
      obtain ⟨rfl, rfl⟩ := e
      obtain ⟨rfl, rfl⟩ := e'
      generalize l.getD k ([], 0) = x at *
      obtain ⟨xs, xi⟩ := x
      simp only at z0 z1 y0 y1
      have z0' := fun (p : UpW wr) => cell_up z0 p
      have z1' := fun (p : UpW wr) => cell_up z1 p
      have y0' := fun (p : UpW wr) => cell_up y0 p
      have y1' := fun (p : UpW wr) => cell_up y1 p
      go_wp2_with fail
      refine wp_region_up (by kernel_rfl) (by kernel_rfl) ?_
      repeat (quiet_step (fail))
      refine wpQuiet_nil ?_
      intro _ hw'
      obtain ⟨p, hw''⟩ := hw'
      subst hw''
      have HU : Hid (Below w.heap.size w p.val) := up_trans up.out p.up
      go_wp2_with fail
      exact ⟨⟨k + 1, by omega, by go_num, HU⟩, by simp [intOf]; omega⟩
    · have hlt' : ¬ (k : Int) < (l.length : Int) := by omega
      go_wp2_with fail
      go_ret
      exact ⟨rfl, up.out⟩
end Go.Proofs.YtnchjlimkgbfpaaGreatDoor

namespace Go.Proofs.YtnchjlimkgbfpaaGreatDoor
open Go.RowKit
set_option linter.unusedVariables false
set_option linter.unusedSimpArgs false
theorem up_set {a b : World} (h : Below a.heap.size a b) (q : Addr) (hq : a.heap.size ≤ q.block) (u : Value) : Below a.heap.size a (b.setCell q u) :=
  h.grown (grown_set b q u) h.size (fun k hk => by injection hk with hk; omega)
set_option maxHeartbeats 8000000 in
set_option maxRecDepth 4000 in
theorem alikeS_self (s : St) (v u : Value) (w : World) (hv : StW w v s) (hu : StW w u s) :
    Calls Tryz.prog 16 #[v, u] w fun e w' => e = .returned (.int .i64 0) ∧ Below w.heap.size w w' := by
  obtain ⟨a1f, c1f, a1n, c1n, a1s, c1s, rfl⟩ := hv.form
  obtain ⟨a2f, c2f, a2n, c2n, a2s, c2s, rfl⟩ := hu.form
  obtain ⟨vf, vn, vs, ev, hf1, hn1, hs1, _, _⟩ := hv
  simp at ev
  obtain ⟨rfl, rfl, rfl⟩ := ev
  obtain ⟨vf, vn, vs, ev, hf2, hn2, hs2, _, _⟩ := hu
  simp at ev
  obtain ⟨rfl, rfl, rfl⟩ := ev
  have hmx : s.files.length ≤ 9223372036854775807 := by
    obtain ⟨_, cc, e, h1, h2⟩ := hf1.len
    unfold maxLen at h2
    omega
  have HF1 : Hid (FilesW w (.slice a1f s.files.length c1f) s.files) := hf1
  have HF2 : Hid (FilesW w (.slice a2f s.files.length c2f) s.files) := hf2
  have HN : Hid (NamesW w (.slice a1n s.names.length c1n) s.names ∧ NamesW w (.slice a2n s.names.length c2n) s.names) := ⟨hn1, hn2⟩
  have HS : Hid (NamesW w (.slice a1s s.safe.length c1s) s.safe ∧ NamesW w (.slice a2s s.safe.length c2s) s.safe) := ⟨hs1, hs2⟩
  obtain ⟨N, hN⟩ : ∃ N, N = w.heap.size := ⟨_, rfl⟩
  obtain ⟨wx, hwx⟩ : ∃ wx, wx = (w.alloc (.cells #[.int .i64 s.cap, .slice a1f s.files.length c1f, .slice a1n s.names.length c1n, .slice a1s s.safe.length c1s, .int .i64 s.next] 35)).alloc (.cells #[.int .i64 s.cap, .slice a2f s.files.length c2f, .slice a2n s.names.length c2n, .slice a2s s.safe.length c2s, .int .i64 s.next] 25) := ⟨_, rfl⟩
  have HWx : Hid ((w.alloc (.cells #[.int .i64 s.cap, .slice a1f s.files.length c1f, .slice a1n s.names.length c1n, .slice a1s s.safe.length c1s, .int .i64 s.next] 35)).alloc (.cells #[.int .i64 s.cap, .slice a2f s.files.length c2f, .slice a2n s.names.length c2n, .slice a2s s.safe.length c2s, .int .i64 s.next] 25) = wx) := hwx.symm
  have b0 : wx.heap[N]? = some (.cells #[.int .i64 s.cap, .slice a1f s.files.length c1f, .slice a1n s.names.length c1n, .slice a1s s.safe.length c1s, .int .i64 s.next] 35) := by rw [hwx, hN]; exact blk_two0 w _ _
  have b1 : wx.heap[N + 1]? = some (.cells #[.int .i64 s.cap, .slice a2f s.files.length c2f, .slice a2n s.names.length c2n, .slice a2s s.safe.length c2s, .int .i64 s.next] 25) := by rw [hwx, hN]; exact blk_two1 w _ _
  have UX : Hid (Below w.heap.size w wx) := by rw [hwx]; exact up_al (up_al (Below.refl _ _) _) _
  obtain ⟨p0, p1, p2, p3, p4⟩ := box_cells b0
  obtain ⟨q0, q1, q2, q3, q4⟩ := box_cells b1
  have HNe : Hid (N = w.heap.size) := hN
  clear hf1 hf2 hn1 hn2 hs1 hs2 hwx
  go_enter Tryz.func16, Tryz.ntmps16
  go_upto_region 1 with fail
  rw [HWx.out, ← hN]
  clear HWx hN
  go_wp2_with fail
  refine (sameNames_self s.names _ _ wx (HN.out.1.up UX.out) (HN.out.2.up UX.out)).mono ?_
  rintro e w1 ⟨rfl, u1⟩
  have B0 := blk_up b0 u1
  have B1 := blk_up b1 u1
  have U1 : Hid (Below w.heap.size w w1) := up_trans UX.out u1
  clear p0 p1 p2 p3 p4 q0 q1 q2 q3 q4 b0 b1 u1
  obtain ⟨p0, p1, p2, p3, p4⟩ := box_cells B0
  obtain ⟨q0, q1, q2, q3, q4⟩ := box_cells B1
  go_wp2_with fail
  refine (sameNames_self s.safe _ _ w1 (HS.out.1.up U1.out) (HS.out.2.up U1.out)).mono ?_
  rintro e w2 ⟨rfl, u2⟩
  have B0' := blk_up B0 u2
  have B1' := blk_up B1 u2
  have U2 : Hid (Below w.heap.size w w2) := up_trans U1.out u2
  clear p0 p1 p2 p3 p4 q0 q1 q2 q3 q4 B0 B1 u2
  obtain ⟨p0, p1, p2, p3, p4⟩ := box_cells B0'
  obtain ⟨q0, q1, q2, q3, q4⟩ := box_cells B1'
  go_wp2_with fail
  go_loopw [5] (fun i wr => ∃ k : Nat, k ≤ s.files.length ∧ i = .int .i64 k ∧ Hid (Below w2.heap.size w2 wr)) (fun i _ => s.files.length - (intOf i).toNat)
  case atStart => exact ⟨0, Nat.zero_le _, rfl, Below.refl _ _⟩
  case round =>
    obtain ⟨k, hk, rfl, HB⟩ := hrel
    have r1 := (HB.out.cell (World.block_lt_of_cell? _ _ p1)).trans p1
    have r2 := (HB.out.cell (World.block_lt_of_cell? _ _ q1)).trans q1
    have UR : Hid (Below w.heap.size w wr) := up_trans U2.out HB.out
    by_cases hlt : k < s.files.length
    · have hlt' : (k : Int) < (s.files.length : Int) := by omega
      obtain ⟨g1, o1, cap1, u1, e1, _, _, c0, c1, c2, ho1, _⟩ := (HF1.out.up UR.out).at k hlt
      simp at e1
      obtain ⟨rfl, rfl⟩ := e1
      obtain ⟨g2, o2, cap2, u2, e2, _, _, d0, d1, d2, ho2, _⟩ := (HF2.out.up UR.out).at k hlt
      simp at e2
      obtain ⟨rfl, rfl⟩ := e2
      generalize s.files.getD k (0, [], 0) = y at *
      obtain ⟨yi, yd, ys⟩ := y
      simp only at c0 c1 c2 d0 d1 d2 ho1 ho2
      obtain ⟨ad1, cd1, rfl, _⟩ := ho1.slice
      obtain ⟨ad2, cd2, rfl, _⟩ := ho2.slice
      have HO : Hid (Octs wr (.slice ad1 yd.length cd1) yd ∧ Octs wr (.slice ad2 yd.length cd2) yd) := ⟨ho1, ho2⟩
      have l1 := World.block_lt_of_cell? _ _ r1
      have l2 := World.block_lt_of_cell? _ _ r2
      have l3 := World.block_lt_of_cell? _ _ c0
      have l4 := World.block_lt_of_cell? _ _ d0
      simp only at l1 l2 l3 l4
      have n1 : ¬ N = wr.heap.size := by omega
      have n2 : ¬ N + 1 = wr.heap.size := by omega
      have n3 : ¬ g1 = wr.heap.size := by omega
      have n4 : ¬ g2 = wr.heap.size := by omega
      have n5 : ¬ N = wr.heap.size + 1 := by omega
      have n6 : ¬ N + 1 = wr.heap.size + 1 := by omega
      have n7 : ¬ g1 = wr.heap.size + 1 := by omega
      have n8 : ¬ g2 = wr.heap.size + 1 := by omega
      have m1 : ¬ wr.heap.size = N := by omega
      have m2 : ¬ wr.heap.size = N + 1 := by omega
      have m3 : ¬ wr.heap.size = g1 := by omega
      have m4 : ¬ wr.heap.size = g2 := by omega
      have m5 : ¬ wr.heap.size + 1 = N := by omega
      have m6 : ¬ wr.heap.size + 1 = N + 1 := by omega
      have m7 : ¬ wr.heap.size + 1 = g1 := by omega
      have m8 : ¬ wr.heap.size + 1 = g2 := by omega
      clear ho1 ho2
      have HK : Hid (∀ X, Below wr.heap.size wr X → X.cell? ⟨N, 1, none⟩ = some (.slice (some ⟨g1, o1, none⟩) s.files.length c1f) ∧ X.cell? ⟨N + 1, 1, none⟩ = some (.slice (some ⟨g2, o2, none⟩) s.files.length c2f) ∧ X.cell? ⟨g1, o1 + k * 3, none⟩ = some (.int .i64 yi) ∧ X.cell? ⟨g1, o1 + k * 3 + 1, none⟩ = some (.slice ad1 yd.length cd1) ∧ X.cell? ⟨g1, o1 + k * 3 + 2, none⟩ = some (.int .i64 ys) ∧ X.cell? ⟨g2, o2 + k * 3, none⟩ = some (.int .i64 yi) ∧ X.cell? ⟨g2, o2 + k * 3 + 1, none⟩ = some (.slice ad2 yd.length cd2) ∧ X.cell? ⟨g2, o2 + k * 3 + 2, none⟩ = some (.int .i64 ys)) := by
        intro X hX
        exact ⟨(hX.cell l1).trans r1, (hX.cell l2).trans r2, (hX.cell l3).trans c0, (hX.cell l3).trans c1, (hX.cell l3).trans c2, (hX.cell l4).trans d0, (hX.cell l4).trans d1, (hX.cell l4).trans d2⟩
      go_upto_region 6 with fail
      go_cut [6, 7] from 52 to 61 (fun s6 s7 wx => ∃ A B, s6 = .pointer (some ⟨A, 0, none⟩) ∧ s7 = .pointer (some ⟨B, 0, none⟩) ∧ wx.heap[A]? = some (.cells #[.int .i64 yi, .slice ad1 yd.length cd1, .int .i64 ys] 110) ∧ wx.heap[B]? = some (.cells #[.int .i64 yi, .slice ad2 yd.length cd2, .int .i64 ys] 111) ∧ Hid (Below wr.heap.size wr wx))
      case first =>
        go_region_held3 (fun w' => w'.cell? ⟨N, 1, none⟩ = some (.slice (some ⟨g1, o1, none⟩) s.files.length c1f) ∧ w'.cell? ⟨N + 1, 1, none⟩ = some (.slice (some ⟨g2, o2, none⟩) s.files.length c2f) ∧ w'.cell? ⟨g1, o1 + k * 3, none⟩ = some (.int .i64 yi) ∧ w'.cell? ⟨g1, o1 + k * 3 + 1, none⟩ = some (.slice ad1 yd.length cd1) ∧ w'.cell? ⟨g1, o1 + k * 3 + 2, none⟩ = some (.int .i64 ys) ∧ w'.cell? ⟨g2, o2 + k * 3, none⟩ = some (.int .i64 yi) ∧ w'.cell? ⟨g2, o2 + k * 3 + 1, none⟩ = some (.slice ad2 yd.length cd2) ∧ w'.cell? ⟨g2, o2 + k * 3 + 2, none⟩ = some (.int .i64 ys)) (exact HK.out _ (by repeat (first | exact Below.refl _ _ | apply up_dr | apply up_al | (refine up_set ?_ _ (by first | exact Nat.le_refl _ | exact Nat.le_succ _) _)))) (fail)
        all_goals
          clear HK r1 r2 c0 c1 c2 d0 d1 d2 n1 n2 n3 n4 n5 n6 n7 n8 m1 m2 m3 m4 m5 m6 m7 m8 l1 l2 l3 l4
          go_wp2_with fail
          go_meet
          case rel => first | exact ⟨_, _, rfl, rfl, blk_up (blk_two0 wr _ _) (up_dr (Below.refl _ _)), blk_up (blk_two1 wr _ _) (up_dr (Below.refl _ _)), up_dr (up_al (up_al (Below.refl _ _) _) _)⟩ | exact ⟨_, _, rfl, rfl, blk_up (blk_two1 wr _ _) (up_dr (Below.refl _ _)), blk_up (blk_two0 wr _ _) (up_dr (Below.refl _ _)), up_dr (up_al (up_al (Below.refl _ _) _) _)⟩
      case rest =>
      obtain ⟨A, B, rfl, rfl, bA, bB, HU⟩ := hcut
      clear HK r1 r2 c0 c1 c2 d0 d1 d2 n1 n2 n3 n4 n5 n6 n7 n8 m1 m2 m3 m4 m5 m6 m7 m8 l1 l2 l3 l4
      have x0 := blk_cell bA 0 _ rfl
      have x1 := blk_cell bA 1 _ rfl
      have x2 := blk_cell bA 2 _ rfl
      have y0 := blk_cell bB 0 _ rfl
      have y1 := blk_cell bB 1 _ rfl
      have y2 := blk_cell bB 2 _ rfl
      go_wp2_with fail
      refine (same_any yd yd _ _ _ (HO.out.1.up HU.out) (HO.out.2.up HU.out)).mono ?_
      rintro e wz ⟨rfl, rfl⟩
      have hd : decide (yd = yd) = true := by simp
      rw [hd]
      clear hd
      have HU2 : Hid (Below w2.heap.size w2 _) := up_trans HB.out HU.out
      go_wp2_with fail
      exact ⟨⟨k + 1, by omega, by go_num, HU2⟩, by simp [intOf]; omega⟩
    · have hlt' : ¬ (k : Int) < (s.files.length : Int) := by omega
      go_wp2_with fail
      go_ret
      exact ⟨rfl, UR.out⟩
end Go.Proofs.YtnchjlimkgbfpaaGreatDoor

namespace Go.Proofs.YtnchjlimkgbfpaaGreatDoor
open Go.RowKit
set_option linter.unusedVariables false
set_option maxRecDepth 20000
set_option linter.unusedSimpArgs false
theorem num_any (x : Int) (w : World) : Calls Tryz.prog 15 #[.int .i64 x] w fun e w' => e = .returned (.int .i64 x) ∧ w' = w := by
  go_enter Tryz.func15, Tryz.ntmps15
  go_wp2
  go_ret
  exact ⟨rfl, rfl⟩
theorem digs12 : digs 12 = [49, 50] := by
  rw [digs_pos (by decide), digs_pos (by decide)]
  simp [digs_zero]
theorem name12 : nameN 116 12 = ([116, 49, 50], 0) := by
  have : nameN 116 12 = (116 :: digs 12, 0) := rfl
  rw [this, digs12]
theorem parse12 : parseN [116, 49, 50] = some (116, 12) := by
  have := parse_name (k := 116) (id := 12) rfl rfl
  rw [show (12 : Int).toNat = 12 from rfl, digs12] at this
  exact this
theorem parse012 : parseN [116, 48, 49, 50] = none := by
  rw [parse_first, if_neg]
  intro q
  have := q.2.2.1.1
  omega
set_option maxHeartbeats 1000000 in
set_option maxRecDepth 20000 in
theorem alive_any (w : World) (he : EnvL w) : Calls Tryz.prog 18 #[] w fun e w' => e = .returned (.bool true) ∧ Below w.heap.size w w' := by
  have H1 := hid (nameX 116 12 { data := #[116, 49, 50] } 0 (by rw [name12]; rfl) (by omega) w he.1)
  have H2 : Hid (∀ w', Below w.heap.size w w' → Calls Tryz.prog 49 #[.string { data := #[116, 48, 49, 50] }] w' fun e w'' => e = .returned (.tuple #[.int .u8 0, .int .i64 0, .bool false]) ∧ Below w'.heap.size w' w'') := by
    intro w' hb
    have := parse_any [116, 48, 49, 50] (by simp) (by simp) w' (he.up hb)
    rw [parse012] at this
    exact this
  have H3 : Hid (∀ w', Below w.heap.size w w' → Calls Tryz.prog 49 #[.string { data := #[116, 49, 50] }] w' fun e w'' => e = .returned (.tuple #[.int .u8 116, .int .i64 12, .bool true]) ∧ Below w'.heap.size w' w'') := by
    intro w' hb
    have := parse_any [116, 49, 50] (by simp) (by simp) w' (he.up hb)
    rw [parse12] at this
    exact this
  clear he
  go_enter Tryz.func18, Tryz.ntmps18
  go_wp2_with fail
  refine H1.out.mono ?_
  rintro e w1 ⟨rfl, hb1⟩
  go_wp2_with fail
  refine (H2.out w1 hb1).mono ?_
  rintro e w2 ⟨rfl, hb2⟩
  have hb2 := up_trans hb1 hb2
  go_wp2_with fail
  refine (H3.out w2 hb2).mono ?_
  rintro e w3 ⟨rfl, hb3⟩
  have hb3 := up_trans hb2 hb3
  go_wp2_with fail
  refine (num_any _ _).mono ?_
  rintro e w4 ⟨rfl, rfl⟩
  go_wp2_with fail
  go_ret
  exact ⟨rfl, hb3⟩
end Go.Proofs.YtnchjlimkgbfpaaGreatDoor
