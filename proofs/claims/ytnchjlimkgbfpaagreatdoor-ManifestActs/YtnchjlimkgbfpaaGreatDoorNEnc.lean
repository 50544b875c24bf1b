
import Derived.Test.YtnchjlimkgbfpaaGreatDoorNPut
import Derived.Lib.AppendStr
namespace Go.Proofs.YtnchjlimkgbfpaaGreatDoor
open Go.RowKit
set_option linter.unusedVariables false
set_option maxRecDepth 20000
set_option linter.unusedSimpArgs false
theorem strCells_nums (s : ByteArray) : Lib.strCells s = (nums s).map (Value.int .u8) := by
  simp [Lib.strCells, nums, List.map_map, Function.comp_def]
theorem append_str_run (w : World) (ty : TypeId) (base : Nat) (v : Value) (l0 : List Int) (hown : OwnB w base v l0) (t : ByteArray) (hsz : l0.length + t.size ≤ 140737488355328) (hbase : base ≤ w.heap.size) :
    ∃ v' w', (Builtin.append_ #[88, 9] ty #[v, .string t]).run Tryz.prog w = .ok v' w' ∧ OwnB w' base v' (l0 ++ nums t) ∧ w.grownBy w' v.ownBlock := by
  obtain ⟨i0, hi, hz0, hz1, hz2⟩ := info_some Tryz.info5
  obtain ⟨v', w', h1, h2, h3, _⟩ := Lib.run_append_own_string (P := Tryz.prog) w base 88 9 ty 5 i0 Tryz.underlying88 Tryz.underlying9 hi hz0 hz1 hz2 v l0.length _ hown t (by unfold maxLen; omega) hsz hbase
  refine ⟨v', w', h1, ?_, h3⟩
  unfold OwnB
  rw [List.length_append, nums_length, List.map_append, ← strCells_nums]
  exact h2
theorem wpList_append_str (w : World) {ops : Array Oper} {rest : List Oper} {o : Oper} {a : Act} {Q : Exit → Act → World → Prop} (hgd : o.guard = none) (s x : Operand)
    (ho : o.op = .call { callee := .builtin .append, args := #[s, x], argTypes := #[88, 9] }) (base : Nat) (v : Value) (l0 : List Int) (hs : a.eval s = v) (hown : OwnB w base v l0)
    (t : ByteArray) (hx : a.eval x = .string t) (hsz : l0.length + t.size ≤ 140737488355328) (hbase : base ≤ w.heap.size)
    (h : ∀ v' w', OwnB w' base v' (l0 ++ nums t) → w.grownBy w' v.ownBlock → wpList Tryz.prog ops Q rest (a.put o.dst v') w') : wpList Tryz.prog ops Q (o :: rest) a w := by
  refine wpList_plain hgd fun K hK => ?_
  obtain ⟨v', w', hr, h2, h3⟩ := append_str_run w o.type base v l0 hown t hsz hbase
  unfold Oper.wp execOp
  simp only [ho, resolve, invoke, builtin, Sem.run_bind, Sem.run_pure, Result.andThen_ok, List.map_toArray, List.map_cons, List.map_nil, hs, hx, hr]
  exact hK _ _ (h v' w' h2 h3)
theorem ints_blk {w : World} {N : Nat} {l : List Int} {t : TypeId} {fr : Nat × Nat} (h : w.heap[N]? = some (.cells (l.map (Value.int .i64)).toArray t fr)) (hm : l.length ≤ maxLen) : IntsR w (.slice (some ⟨N, 0, none⟩) l.length l.length) l := by
  refine ⟨by intro cs hcs; obtain ⟨x, _, rfl⟩ := List.mem_map.1 hcs; rfl, some ⟨N, 0, none⟩, l.length, by rw [List.length_map], by rw [List.length_map]; exact Nat.le_refl _, hm, (fun h => by cases h), fun _ => ⟨N, 0, rfl, fun j cs hj i u hi => ?_⟩⟩
  rw [List.getElem?_map] at hj
  cases hx : l[j]? with
  | none => rw [hx] at hj; cases hj
  | some x =>
    rw [hx] at hj
    simp only [Option.map_some, Option.some.injEq] at hj
    subst hj
    have hi0 : i = 0 := by
      cases i with
      | zero => rfl
      | succ i => simp [irow] at hi
    subst hi0
    simp only [irow, List.getElem?_cons_zero, Option.some.injEq] at hi
    subst hi
    have := blk_cell h j (.int .i64 x) (by simp [hx])
    simpa using this
theorem put42_blk (base B NN : Nat) (l o : List Int) (t : TypeId) (w : World) (hp : PutW base B w o) (hBB : base ≤ B) (hb : w.heap[NN]? = some (.cells (l.map (Value.int .i64)).toArray t)) (ht : t ≠ 5) (hN : NN ≠ B) (hl : ∀ x ∈ l, numE x = true) (hs : o.length + 9 * l.length ≤ 1099511627776) :
    Calls Tryz.prog 118 #[.slice (some ⟨NN, 0, none⟩) l.length l.length, .pointer (some ⟨B, 0, none⟩)] w fun e w' => e = .returned (.tuple #[]) ∧ Hid (PutW base B w' (o ++ idsO l)) ∧ Hid (KeptB base B w w') :=
  put42_any base B l o _ w hp hBB (fun w' k => ints_blk (k.keep _ _ _ _ hb ht hN) (by unfold maxLen; omega)) hl hs
theorem PutW.lt {base B : Nat} {w : World} {o : List Int} (h : PutW base B w o) : B < w.heap.size := by
  obtain ⟨a, n, c, h1, _⟩ := h
  exact blk_lt h1
theorem PutW.le {base B : Nat} {w : World} {o : List Int} (h : PutW base B w o) (hb : base ≤ B) : base ≤ w.heap.size := Nat.le_of_lt (Nat.lt_of_le_of_lt hb h.lt)
theorem metO_len {m : Me} (h : metE m = true) : (metO m).length ≤ 300 := by
  obtain ⟨_, _, _, h3, h4⟩ := metE_iff.1 h
  have a := octets_lenE m.id
  have b := octets_lenE m.lvl
  have c := octets_lenE m.cnt
  have d := octets_lenE (m.low.size : Int)
  have e := octets_lenE (m.high.size : Int)
  unfold metO txtE
  simp only [List.length_append, nums_length]
  omega
theorem metsO_app : ∀ l r : List Me, metsO (l ++ r) = metsO l ++ metsO r
  | [], r => rfl
  | x :: t, r => by simp only [List.cons_append, metsO, metsO_app t r, List.append_assoc]
theorem metsO_len : ∀ l : List Me, (∀ m ∈ l, metE m = true) → (metsO l).length ≤ 300 * l.length
  | [], _ => by simp [metsO]
  | x :: t, h => by
    have h1 := metsO_len t (fun m hm => h m (List.mem_cons_of_mem _ hm))
    have h2 := metO_len (h x (List.mem_cons_self))
    simp only [metsO, List.length_append, List.length_cons]
    omega
theorem below_mono {B B' : Nat} {w x : World} (h : Below B w x) (hB : B' ≤ B) : Below B' w x := ⟨h.os, h.tape, h.output, h.size, fun i hi => h.block i (Nat.lt_of_lt_of_le hi hB)⟩
theorem ownB_mono {w : World} {base base' : Nat} {v : Value} {l : List Int} (h : OwnB w base v l) (hb : base' ≤ base) : OwnB w base' v l := ownB_of ((ownB_R h).mono hb)
set_option maxHeartbeats 8000000 in
set_option maxRecDepth 100000 in
theorem encode_any (seq next : Int) (drop : List Int) (adds : List Me) (vd va : Value) (w : World) (hd : IntsR w vd drop) (ha : MetsR w va adds) :
    Calls Tryz.prog 74 #[.agg #[vd, va, .int .i64 seq, .int .i64 next]] w fun e w' => ∃ a n c, e = .returned (.tuple #[.slice a n c, .int .i64 (encE seq next drop adds).2]) ∧ Hid (OwnB w' w.heap.size (.slice a n c) (encE seq next drop adds).1) ∧ Hid (Below w.heap.size w w') := by
  have HDR : Hid (IntsR w vd drop) := hd
  have HAR : Hid (MetsR w va adds) := ha
  obtain ⟨ad, cd, rfl, _, md⟩ := hd.len
  obtain ⟨aa, ca, rfl, _, ma⟩ := ha.len
  clear hd ha md ma
  have UB : Hid (Below w.heap.size w (w.alloc (.cells #[.slice ad drop.length cd, .slice aa adds.length ca, .int .i64 seq, .int .i64 next] 42))) := up_alloc _ _
  have BN : Hid ((w.alloc (.cells #[.slice ad drop.length cd, .slice aa adds.length ca, .int .i64 seq, .int .i64 next] 42)).heap[w.heap.size]? = some (.cells #[.slice ad drop.length cd, .slice aa adds.length ca, .int .i64 seq, .int .i64 next] 42)) := blk_new _ _
  have HCK := hid (checkEdit_any seq next drop adds _ _ (w.alloc (.cells #[.slice ad drop.length cd, .slice aa adds.length ca, .int .i64 seq, .int .i64 next] 42)) (HDR.out.up UB.out) (HAR.out.up UB.out))
  obtain ⟨w1, hw1⟩ : ∃ w1, w.alloc (.cells #[.slice ad drop.length cd, .slice aa adds.length ca, .int .i64 seq, .int .i64 next] 42) = w1 := ⟨_, rfl⟩
  rw [hw1] at UB BN HCK
  have c0 := blk_cell BN.out 0 _ rfl
  have c1 := blk_cell BN.out 1 _ rfl
  have c2 := blk_cell BN.out 2 _ rfl
  have c3 := blk_cell BN.out 3 _ rfl
  by_cases hz : (encE seq next drop adds).2 = 0
  case neg =>
    rw [encE_bad hz]
    have hz' : ((encE seq next drop adds).2 == 0) = false := by simp [hz]
    clear hz
    generalize (encE seq next drop adds).2 = y at *
    go_enter Tryz.func74, Tryz.ntmps74
    go_upto_region 1 with fail
    try rw [hw1]
    clear hw1
    go_wp2_with fail
    refine HCK.out.mono ?_
    rintro e w2 ⟨rfl, u2⟩
    have U2 : Hid (Below w.heap.size w w2) := up_trans UB.out u2.out
    clear c0 c1 c2 c3
    go_wp2_with fail
    go_ret2
    exact ⟨none, 0, 0, rfl, OwnB.nil _ _, U2⟩
  obtain ⟨hdl, hal, hsq, hnx, hids, hms⟩ := encE_zero.1 hz
  rw [hz] at HCK
  rw [encE_good hz]
  simp only
  clear hz
  have HDL : Hid (drop.length ≤ 256 ∧ adds.length ≤ 256) := ⟨hdl, hal⟩
  have HSQ : Hid (numE seq = true ∧ numE next = true) := ⟨hsq, hnx⟩
  have HID : Hid (∀ i ∈ drop, numE i = true) := hids
  have HMS : Hid (∀ m ∈ adds, metE m = true) := hms
  clear hdl hal hsq hnx hids hms
  go_enter Tryz.func74, Tryz.ntmps74
  go_upto_region 1 with fail
  try rw [hw1]
  clear hw1
  go_wp2_with fail
  refine HCK.out.mono ?_
  rintro e w2 ⟨rfl, u2⟩
  have U3 : Hid (Below w.heap.size w (w2.alloc (.cells #[.slice none 0 0] 88))) := up_al (up_trans UB.out u2.out) _
  have BN3 : Hid ((w2.alloc (.cells #[.slice none 0 0] 88)).heap[w.heap.size]? = some (.cells #[.slice ad drop.length cd, .slice aa adds.length ca, .int .i64 seq, .int .i64 next] 42)) := blk_up (blk_up BN.out u2.out) (up_alloc _ _)
  have P3 : Hid (PutW w2.heap.size w2.heap.size (w2.alloc (.cells #[.slice none 0 0] 88)) []) := ⟨none, 0, 0, blk_new _ _, OwnB.nil _ _⟩
  have HNB : Hid (w.heap.size < w2.heap.size) := blk_lt (blk_up BN.out u2.out)
  obtain ⟨w3, hw3⟩ : ∃ w3, w2.alloc (.cells #[.slice none 0 0] 88) = w3 := ⟨_, rfl⟩
  rw [hw3] at U3 BN3 P3
  clear u2 c0 c1 c2 c3 BN HCK UB
  go_upto_region 6 with fail
  try rw [hw3]
  clear hw3
  obtain ⟨B, hB⟩ : ∃ B, w2.heap.size = B := ⟨_, rfl⟩
  rw [hB] at P3 HNB ⊢
  clear hB
  have c0 := blk_cell BN3.out 0 _ rfl
  have c1 := blk_cell BN3.out 1 _ rfl
  have c2 := blk_cell BN3.out 2 _ rfl
  have c3 := blk_cell BN3.out 3 _ rfl
  have QC : Hid (Calls Tryz.prog 118 #[.slice (some ⟨w3.heap.size, 0, none⟩) 3 3, .pointer (some ⟨B, 0, none⟩)] (w3.alloc (.cells #[.int .i64 seq, .int .i64 next, .int .i64 (drop.length : Int)] 3)) fun e w' => e = .returned (.tuple #[]) ∧ Hid (PutW B B w' ([] ++ idsO [seq, next, (drop.length : Int)])) ∧ Hid (KeptB B B (w3.alloc (.cells #[.int .i64 seq, .int .i64 next, .int .i64 (drop.length : Int)] 3)) w')) :=
    put42_blk B B w3.heap.size [seq, next, (drop.length : Int)] [] 3 _ (P3.out.up (up_alloc _ _)) (Nat.le_refl _) (blk_new _ _) (by decide) (by have := P3.out.lt; omega) (by intro z hz; simp only [List.mem_cons, List.not_mem_nil, or_false] at hz; have := HDL.out; rcases hz with rfl | rfl | rfl; exact HSQ.out.1; exact HSQ.out.2; exact numE_iff.2 (by omega)) (by simp)
  have K4 : Hid (KeptB B B w3 (w3.alloc (.cells #[.int .i64 seq, .int .i64 next, .int .i64 (drop.length : Int)] 3))) := (KeptB.refl _ _ _).up (up_alloc _ _) (P3.out.le (Nat.le_refl _))
  clear P3
  go_wp2_with fail
  refine QC.out.mono ?_
  rintro e w5 ⟨rfl, P5, kk⟩
  have K5 : Hid (KeptB B B w3 w5) := K4.out.trans kk.out
  clear kk K4 QC c0 c1 c2 c3
  have HKB : Hid (∀ w', KeptB B B w3 w' → Below w.heap.size w w') := fun w' k => U3.out.trans (below_mono k.below (Nat.le_of_lt HNB.out))
  have HKX : Hid (∀ w', KeptB B B w3 w' → w'.heap[w.heap.size]? = some (.cells #[.slice ad drop.length cd, .slice aa adds.length ca, .int .i64 seq, .int .i64 next] 42)) := fun w' k => k.keep _ _ _ _ BN3.out (by decide) (by have := HNB.out; omega)
  have c0 := blk_cell (HKX.out _ K5.out) 0 _ rfl
  have QD := hid (put42_any B B drop _ (.slice ad drop.length cd) w5 P5.out (Nat.le_refl _) (fun w' k => HDR.out.up (HKB.out _ (K5.out.trans k))) HID.out (by have := HDL.out; have := idsO_len [seq, next, (drop.length : Int)]; simp only [List.length_append, List.length_cons, List.length_nil] at *; omega))
  go_wp2_with fail
  refine QD.out.mono ?_
  rintro e w6 ⟨rfl, P6, kk⟩
  have K6 : Hid (KeptB B B w3 w6) := K5.out.trans kk.out
  clear kk QD c0 P5 K5
  have c1 := blk_cell (HKX.out _ K6.out) 1 _ rfl
  have QE : Hid (Calls Tryz.prog 118 #[.slice (some ⟨w6.heap.size, 0, none⟩) 1 1, .pointer (some ⟨B, 0, none⟩)] (w6.alloc (.cells #[.int .i64 (adds.length : Int)] 3)) fun e w' => e = .returned (.tuple #[]) ∧ Hid (PutW B B w' ((([] ++ idsO [seq, next, (drop.length : Int)]) ++ idsO drop) ++ idsO [(adds.length : Int)])) ∧ Hid (KeptB B B (w6.alloc (.cells #[.int .i64 (adds.length : Int)] 3)) w')) :=
    put42_blk B B w6.heap.size [(adds.length : Int)] _ 3 _ (P6.out.up (up_alloc _ _)) (Nat.le_refl _) (blk_new _ _) (by decide) (by have := P6.out.lt; omega) (by intro z hz; simp only [List.mem_singleton] at hz; have := HDL.out; subst hz; exact numE_iff.2 (by omega)) (by have := HDL.out; have := idsO_len [seq, next, (drop.length : Int)]; have := idsO_len drop; simp only [List.length_append, List.length_cons, List.length_nil] at *; omega)
  have K7 : Hid (KeptB B B w3 (w6.alloc (.cells #[.int .i64 (adds.length : Int)] 3))) := K6.out.up (up_alloc _ _) (P6.out.le (Nat.le_refl _))
  clear P6 K6
  go_wp2_with fail
  refine QE.out.mono ?_
  rintro e w8 ⟨rfl, P8, kk⟩
  have K8 : Hid (KeptB B B w3 w8) := K7.out.trans kk.out
  clear kk QE c1 K7
  have c1 := blk_cell (HKX.out _ K8.out) 1 _ rfl
  obtain ⟨o0, ho0⟩ : ∃ o0, (([] ++ idsO [seq, next, (drop.length : Int)]) ++ idsO drop) ++ idsO [(adds.length : Int)] = o0 := ⟨_, rfl⟩
  rw [ho0] at P8
  have HO0 : Hid (o0.length ≤ 3000) := by
    have := HDL.out; have := idsO_len [seq, next, (drop.length : Int)]; have := idsO_len drop; have := idsO_len [(adds.length : Int)]
    rw [← ho0]
    simp only [List.length_append, List.length_cons, List.length_nil, Hid] at *
    omega
  have HED : Hid (o0 ++ metsO adds = edO seq next drop adds) := by
    rw [← ho0]
    unfold edO
    simp [idsO, Hid]
  clear ho0 HID HSQ HDR
  go_wp2_with fail
  go_loopw [41] (fun i wr => ∃ k : Nat, k ≤ adds.length ∧ i = .int .i64 k ∧ Hid (PutW B B wr (o0 ++ metsO (adds.take k))) ∧ Hid (KeptB B B w3 wr)) (fun i _ => adds.length - (intOf i).toNat)
  case atStart => exact ⟨0, Nat.zero_le _, rfl, by simpa [Hid, metsO] using P8.out, K8⟩
  case round =>
    clear P8 K8 c1
    obtain ⟨k, hk, rfl, PT, KT⟩ := hrel
    by_cases hlt : k < adds.length
    · have hlt' : (k : Int) < (adds.length : Int) := by omega
      have hle : (k : Int) + 1 ≤ 256 := by have := HDL.out; omega
      obtain ⟨b, off, cap, x, e, hx, x0, x1, x2, x3, x4⟩ := (HAR.out.up (HKB.out _ KT.out)).at k hlt
      simp at e
      obtain ⟨rfl, rfl⟩ := e
      have hmx := HMS.out x (List.mem_of_getElem? hx)
      have HX96 : Hid (((0 ≤ x.id ∧ x.id ≤ 1099511627776) ∧ (0 ≤ x.lvl ∧ x.lvl ≤ 1099511627776) ∧ (0 ≤ x.cnt ∧ x.cnt ≤ 1099511627776)) ∧ x.low.size ≤ 96 ∧ x.high.size ≤ 96) := by
        obtain ⟨h1, h2, h3, h4, h5⟩ := metE_iff.1 hmx
        exact ⟨⟨h1, h2, h3⟩, h4, h5⟩
      have HTK : Hid ((o0 ++ metsO (adds.take k)) ++ metO x = o0 ++ metsO (adds.take (k + 1))) := by
        unfold Hid
        rw [List.take_add_one, hx, metsO_app]
        simp [metsO]
      have HLN : Hid ((o0 ++ metsO (adds.take k)).length ≤ 100000) := by
        have h1 := metsO_len (adds.take k) (fun m hm => HMS.out m (List.mem_of_mem_take hm))
        have h2 := HO0.out
        have h3 := HDL.out
        rw [List.length_take] at h1
        unfold Hid
        rw [List.length_append]
        omega
      clear hx hmx
      have HNO : Hid (∀ w, Calls Tryz.prog 119 #[.agg #[.int .i64 x.id, .int .i64 x.lvl, .int .i64 x.cnt, .string x.low, .string x.high]] w fun e w' => e = .returned (.agg #[.int .i64 x.id, .int .i64 x.lvl, .int .i64 x.cnt]) ∧ Hid (Below w.heap.size w w')) := fun w => numbersOf_any x w
      have HTO : Hid (∀ w, Calls Tryz.prog 120 #[.agg #[.int .i64 x.id, .int .i64 x.lvl, .int .i64 x.cnt, .string x.low, .string x.high]] w fun e w' => e = .returned (.agg #[.string x.low, .string x.high]) ∧ Hid (Below w.heap.size w w')) := fun w => textsOf_any x w
      have iy0 := fun w => (idx89 x.low x.high w).1
      have iy1 := fun w => (idx89 x.low x.high w).2
      obtain ⟨o1, ho1⟩ : ∃ o1, o0 ++ metsO (adds.take k) = o1 := ⟨_, rfl⟩
      rw [ho1] at PT HTK HLN
      clear ho1
      have BXX : Hid (BoxM (wr.alloc (meBox x)) wr.heap.size x) := blk_new _ _
      have HLT : Hid (B < wr.heap.size) := PT.out.lt
      replace KT : Hid (KeptB B B w3 (wr.alloc (meBox x))) := KT.out.up (up_alloc _ _) (PT.out.le (Nat.le_refl _))
      replace PT : Hid (PutW B B (wr.alloc (meBox x)) o1) := PT.out.up (up_alloc _ _)
      obtain ⟨w2', hw2⟩ : ∃ w2, w2 = wr.alloc (meBox x) := ⟨_, rfl⟩
      have HW2 : Hid (wr.alloc (.cells #[.int .i64 x.id, .int .i64 x.lvl, .int .i64 x.cnt, .string x.low, .string x.high] 148) = w2') := hw2.symm
      rw [← hw2] at PT KT BXX
      clear hw2
      go_upto_region 12 with fail
      rw [HW2.out]
      clear HW2 x0 x1 x2 x3 x4
      generalize wr.heap.size = NX at *
      obtain ⟨m0, m1, m2, m3, m4⟩ := BXX.out.cells
      go_wp2_with fail
      refine (HNO.out _).mono ?_
      rintro e w4 ⟨rfl, u4⟩
      replace KT : Hid (KeptB B B w3 (w4.alloc (.cells #[.int .i64 x.id, .int .i64 x.lvl, .int .i64 x.cnt] 205))) := (KT.out.up u4.out (PT.out.le (Nat.le_refl _))).up (up_alloc _ _) ((PT.out.up u4.out).le (Nat.le_refl _))
      replace PT : Hid (PutW B B (w4.alloc (.cells #[.int .i64 x.id, .int .i64 x.lvl, .int .i64 x.cnt] 205)) o1) := (PT.out.up u4.out).up (up_alloc _ _)
      replace BXX : Hid (BoxM (w4.alloc (.cells #[.int .i64 x.id, .int .i64 x.lvl, .int .i64 x.cnt] 205)) NX x) := (BXX.out.up u4.out).up (up_alloc _ _)
      have BY : Hid ((w4.alloc (.cells #[.int .i64 x.id, .int .i64 x.lvl, .int .i64 x.cnt] 205)).heap[w4.heap.size]? = some (.cells #[.int .i64 x.id, .int .i64 x.lvl, .int .i64 x.cnt] 205)) := blk_new _ _
      have HNY : Hid (B < w4.heap.size) := Nat.lt_trans HLT.out (by have := m0; have h9 := World.block_lt_of_cell? _ _ m0; have := u4.out.size; simp only at h9; omega)
      obtain ⟨w5', hw4⟩ : ∃ w5, w5 = w4.alloc (.cells #[.int .i64 x.id, .int .i64 x.lvl, .int .i64 x.cnt] 205) := ⟨_, rfl⟩
      have HW4 : Hid (w4.alloc (.cells #[.int .i64 x.id, .int .i64 x.lvl, .int .i64 x.cnt] 205) = w5') := hw4.symm
      rw [← hw4] at PT KT BXX BY
      clear hw4 u4 m0 m1 m2 m3 m4
      go_upto_region 13 with fail
      rw [HW4.out]
      clear HW4
      generalize w4.heap.size = NY at *
      have QF : Hid (Calls Tryz.prog 118 #[.slice (some ⟨NY, 0, none⟩) 3 3, .pointer (some ⟨B, 0, none⟩)] w5' fun e w' => e = .returned (.tuple #[]) ∧ Hid (PutW B B w' (o1 ++ idsO [x.id, x.lvl, x.cnt])) ∧ Hid (KeptB B B w5' w')) :=
        put42_blk B B NY [x.id, x.lvl, x.cnt] o1 205 _ PT.out (Nat.le_refl _) BY.out (by decide) (by have := HNY.out; omega) (by intro z hz; simp only [List.mem_cons, List.not_mem_nil, or_false] at hz; have := HX96.out; rcases hz with rfl | rfl | rfl <;> exact numE_iff.2 (by omega)) (by have := HLN.out; simp only [List.length_cons, List.length_nil]; omega)
      clear PT
      go_wp2_with fail
      refine QF.out.mono ?_
      rintro e w6' ⟨rfl, PT, kk⟩
      replace BXX : Hid (BoxM w6' NX x) := kk.out.keep _ _ _ _ BXX.out (by decide) (by have := HLT.out; omega)
      replace KT : Hid (KeptB B B w3 w6') := KT.out.trans kk.out
      clear kk QF BY
      obtain ⟨m0, m1, m2, m3, m4⟩ := BXX.out.cells
      go_wp2_with fail
      refine (HTO.out _).mono ?_
      rintro e w7 ⟨rfl, u7⟩
      replace KT : Hid (KeptB B B w3 w7) := KT.out.up u7.out (PT.out.le (Nat.le_refl _))
      replace PT : Hid (PutW B B w7 (o1 ++ idsO [x.id, x.lvl, x.cnt])) := PT.out.up u7.out
      clear u7 m0 m1 m2 m3 m4 BXX
      go_wp2_with fail
      refine wp_loop_rounds 3 ?_
      rw [rounds_succ]
      have PB1 : Hid ((w7.alloc (.cells #[.int .i64 (x.low.size : Int)] 3)).heap[w7.heap.size]? = some (.cells #[.int .i64 (x.low.size : Int)] 3)) := blk_new _ _
      have PU1 : Hid (PutW B B (w7.alloc (.cells #[.int .i64 (x.low.size : Int)] 3)) (o1 ++ idsO [x.id, x.lvl, x.cnt])) := PT.out.up (up_alloc _ _)
      have PK1 : Hid (KeptB B B w3 (w7.alloc (.cells #[.int .i64 (x.low.size : Int)] 3))) := KT.out.up (up_alloc _ _) (PT.out.le (Nat.le_refl _))
      have PC1 : Hid (Calls Tryz.prog 118 #[.slice (some ⟨w7.heap.size, 0, none⟩) 1 1, .pointer (some ⟨B, 0, none⟩)] (w7.alloc (.cells #[.int .i64 (x.low.size : Int)] 3)) fun e w' => e = .returned (.tuple #[]) ∧ Hid (PutW B B w' ((o1 ++ idsO [x.id, x.lvl, x.cnt]) ++ idsO [(x.low.size : Int)])) ∧ Hid (KeptB B B (w7.alloc (.cells #[.int .i64 (x.low.size : Int)] 3)) w')) := put42_blk B B w7.heap.size [(x.low.size : Int)] (o1 ++ idsO [x.id, x.lvl, x.cnt]) 3 _ PU1.out (Nat.le_refl _) PB1.out (by decide) (by have := PT.out.lt; omega) (by intro z hz; simp only [List.mem_singleton] at hz; subst hz; exact numE_iff.2 (by have := HX96.out; omega)) (by have := HLN.out; simp only [List.length_append, List.length_cons, List.length_nil] at *; have := octets_lenE (x.low.size : Int); have := idsO_len [(x.low.size : Int)]; have := idsO_len [x.id, x.lvl, x.cnt]; have := nums_length x.low; have := HX96.out; simp only [List.length_cons, List.length_nil] at *; omega)
      clear PB1 PU1
      go_wp2_with fail
      refine PC1.out.mono ?_
      rintro e q1 ⟨rfl, PT, kk⟩
      have KT : Hid (KeptB B B w3 q1) := PK1.out.trans kk.out
      clear kk PC1 PK1
      obtain ⟨a1, n1, c1, tb1, to1⟩ := PT.out
      have TB1 := hid tb1
      have TO1 := hid to1
      have r0 := blk_cell tb1 0 _ rfl
      have HSB1 : Hid (((o1 ++ idsO [x.id, x.lvl, x.cnt]) ++ idsO [(x.low.size : Int)]).length + x.low.size ≤ 140737488355328) := by
        have := HLN.out; simp only [List.length_append, List.length_cons, List.length_nil] at *; have := idsO_len [(x.low.size : Int)]; have := idsO_len [(x.high.size : Int)]; have := idsO_len [x.id, x.lvl, x.cnt]; have := nums_length x.low; have := HX96.out; simp only [List.length_cons, List.length_nil] at *; unfold Hid; omega
      have HBS1 : Hid (B ≤ q1.heap.size) := PT.out.le (Nat.le_refl _)
      clear tb1 to1 PT
      obtain ⟨O1, hO1⟩ : ∃ O, (o1 ++ idsO [x.id, x.lvl, x.cnt]) ++ idsO [(x.low.size : Int)] = O := ⟨_, rfl⟩
      rw [hO1] at TO1 HSB1
      replace hO1 := hid hO1
      go_wp2_with (at_builtin; refine wpList_append_str q1 rfl _ _ rfl B (.slice a1 n1 c1) O1 rfl TO1.out x.low rfl HSB1.out HBS1.out ?_)
      intro v1 z1 oz1 gz1
      obtain ⟨a, n, c, rfl⟩ := ownB_shape oz1
      have KZ := hid (KT.out.app TO1.out TB1.out gz1 (Nat.le_refl _))
      have BZ := hid (blk_grown TB1.out gz1 (fun q => (own_blk_ne TO1.out TB1.out (by decide)).elim (fun h => by rw [h] at q; cases q) (fun h => h q.symm)))
      have q0 := blk_cell BZ.out 0 _ rfl
      have f0 := blk_frozen BZ.out 0
      have PT : Hid (PutW B B (z1.setCell ⟨B, 0, none⟩ (.slice a n c)) (((o1 ++ idsO [x.id, x.lvl, x.cnt]) ++ idsO [(x.low.size : Int)]) ++ nums x.low)) := ⟨a, n, c, blk_set BZ.out 0 _, by rw [hO1.out]; exact World.ownsRow.kept oz1 (grown_set z1 ⟨B, 0, none⟩ _) (own_blk_ne oz1 BZ.out (by decide))⟩
      replace KT := hid (KZ.out.set 0 (.slice a n c) (Nat.le_refl _))
      clear oz1 gz1 KZ BZ TO1 TB1 HSB1 HBS1 hO1 r0
      obtain ⟨y1, hy1⟩ : ∃ y, z1.setCell ⟨B, 0, none⟩ (.slice a n c) = y := ⟨_, rfl⟩
      rw [hy1] at PT KT
      go_wp2_with fail
      try rw [hy1]
      clear hy1 q0 f0
      rw [rounds_succ]
      have PB2 : Hid ((y1.alloc (.cells #[.int .i64 (x.high.size : Int)] 3)).heap[y1.heap.size]? = some (.cells #[.int .i64 (x.high.size : Int)] 3)) := blk_new _ _
      have PU2 : Hid (PutW B B (y1.alloc (.cells #[.int .i64 (x.high.size : Int)] 3)) ((((o1 ++ idsO [x.id, x.lvl, x.cnt]) ++ idsO [(x.low.size : Int)]) ++ nums x.low))) := PT.out.up (up_alloc _ _)
      have PK2 : Hid (KeptB B B w3 (y1.alloc (.cells #[.int .i64 (x.high.size : Int)] 3))) := KT.out.up (up_alloc _ _) (PT.out.le (Nat.le_refl _))
      have PC2 : Hid (Calls Tryz.prog 118 #[.slice (some ⟨y1.heap.size, 0, none⟩) 1 1, .pointer (some ⟨B, 0, none⟩)] (y1.alloc (.cells #[.int .i64 (x.high.size : Int)] 3)) fun e w' => e = .returned (.tuple #[]) ∧ Hid (PutW B B w' (((((o1 ++ idsO [x.id, x.lvl, x.cnt]) ++ idsO [(x.low.size : Int)]) ++ nums x.low)) ++ idsO [(x.high.size : Int)])) ∧ Hid (KeptB B B (y1.alloc (.cells #[.int .i64 (x.high.size : Int)] 3)) w')) := put42_blk B B y1.heap.size [(x.high.size : Int)] ((((o1 ++ idsO [x.id, x.lvl, x.cnt]) ++ idsO [(x.low.size : Int)]) ++ nums x.low)) 3 _ PU2.out (Nat.le_refl _) PB2.out (by decide) (by have := PT.out.lt; omega) (by intro z hz; simp only [List.mem_singleton] at hz; subst hz; exact numE_iff.2 (by have := HX96.out; omega)) (by have := HLN.out; simp only [List.length_append, List.length_cons, List.length_nil] at *; have := octets_lenE (x.low.size : Int); have := idsO_len [(x.low.size : Int)]; have := idsO_len [x.id, x.lvl, x.cnt]; have := nums_length x.low; have := HX96.out; simp only [List.length_cons, List.length_nil] at *; omega)
      clear PB2 PU2
      go_wp2_with fail
      refine PC2.out.mono ?_
      rintro e q2 ⟨rfl, PT, kk⟩
      have KT : Hid (KeptB B B w3 q2) := PK2.out.trans kk.out
      clear kk PC2 PK2
      obtain ⟨a2, n2, c2, tb2, to2⟩ := PT.out
      have TB2 := hid tb2
      have TO2 := hid to2
      have r0 := blk_cell tb2 0 _ rfl
      have HSB2 : Hid ((((((o1 ++ idsO [x.id, x.lvl, x.cnt]) ++ idsO [(x.low.size : Int)]) ++ nums x.low)) ++ idsO [(x.high.size : Int)]).length + x.high.size ≤ 140737488355328) := by
        have := HLN.out; simp only [List.length_append, List.length_cons, List.length_nil] at *; have := idsO_len [(x.low.size : Int)]; have := idsO_len [(x.high.size : Int)]; have := idsO_len [x.id, x.lvl, x.cnt]; have := nums_length x.low; have := HX96.out; simp only [List.length_cons, List.length_nil] at *; unfold Hid; omega
      have HBS2 : Hid (B ≤ q2.heap.size) := PT.out.le (Nat.le_refl _)
      clear tb2 to2 PT
      obtain ⟨O2, hO2⟩ : ∃ O, ((((o1 ++ idsO [x.id, x.lvl, x.cnt]) ++ idsO [(x.low.size : Int)]) ++ nums x.low)) ++ idsO [(x.high.size : Int)] = O := ⟨_, rfl⟩
      rw [hO2] at TO2 HSB2
      replace hO2 := hid hO2
      go_wp2_with (at_builtin; refine wpList_append_str q2 rfl _ _ rfl B (.slice a2 n2 c2) O2 rfl TO2.out x.high rfl HSB2.out HBS2.out ?_)
      intro v2 z2 oz2 gz2
      obtain ⟨a, n, c, rfl⟩ := ownB_shape oz2
      have KZ := hid (KT.out.app TO2.out TB2.out gz2 (Nat.le_refl _))
      have BZ := hid (blk_grown TB2.out gz2 (fun q => (own_blk_ne TO2.out TB2.out (by decide)).elim (fun h => by rw [h] at q; cases q) (fun h => h q.symm)))
      have q0 := blk_cell BZ.out 0 _ rfl
      have f0 := blk_frozen BZ.out 0
      have PT : Hid (PutW B B (z2.setCell ⟨B, 0, none⟩ (.slice a n c)) ((((((o1 ++ idsO [x.id, x.lvl, x.cnt]) ++ idsO [(x.low.size : Int)]) ++ nums x.low)) ++ idsO [(x.high.size : Int)]) ++ nums x.high)) := ⟨a, n, c, blk_set BZ.out 0 _, by rw [hO2.out]; exact World.ownsRow.kept oz2 (grown_set z2 ⟨B, 0, none⟩ _) (own_blk_ne oz2 BZ.out (by decide))⟩
      replace KT := hid (KZ.out.set 0 (.slice a n c) (Nat.le_refl _))
      clear oz2 gz2 KZ BZ TO2 TB2 HSB2 HBS2 hO2 r0
      obtain ⟨y2, hy2⟩ : ∃ y, z2.setCell ⟨B, 0, none⟩ (.slice a n c) = y := ⟨_, rfl⟩
      rw [hy2] at PT KT
      go_wp2_with fail
      try rw [hy2]
      clear hy2 q0 f0
      rw [rounds_succ]
      go_wp2_with fail
      have HFN : Hid (PutW B B y2 (o0 ++ metsO (adds.take (k + 1)))) := by
        rw [← HTK.out]
        have h := PT.out
        simp only [idsO, List.append_nil, List.append_assoc] at h
        unfold metO txtE
        simp only [List.append_assoc]
        exact h
      exact ⟨⟨k + 1, by omega, by go_num, HFN, KT⟩, by simp [intOf]; omega⟩
    · have hlt' : ¬ (k : Int) < (adds.length : Int) := by omega
      obtain rfl : k = adds.length := by omega
      rw [List.take_length, HED.out] at PT
      obtain ⟨a, n, c, b1, o1⟩ := PT.out
      have r0 := blk_cell b1 0 _ rfl
      have O1 := hid (ownB_mono o1 (Nat.le_of_lt HNB.out))
      have UF := hid (HKB.out _ KT.out)
      clear b1 o1 PT KT
      go_wp2_with fail
      go_ret2
      exact ⟨a, n, c, rfl, O1, UF⟩
end Go.Proofs.YtnchjlimkgbfpaaGreatDoor
