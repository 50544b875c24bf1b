/- The texts XLeaf, XApp, in this order. -/
import Derived.Test.YtekoniaobmapdabG08
import Derived.Deep.QuietTactic
import Derived.BigQuiet
import Derived.Maps.AppendAt
import Derived.Lib.AppendStr

/- The document's common, Ordered and Check of layer 9. -/
namespace Go.Proofs.Ytekoniaobmapdab
open Go.RowKit SumPlain
set_option linter.unusedVariables false
set_option linter.unusedSimpArgs false

theorem str_size (l : List Int) : (strOfNums l).size = l.length := by simp [strOfNums, ByteArray.size]
theorem str_at (l : List Int) (hl : ∀ x ∈ l, 0 ≤ x ∧ x ≤ 255) (k : Nat) (h : k < (strOfNums l).size) : (((strOfNums l)[k]'h).toNat : Int) = l.getD k 0 := by
  have hk : k < l.length := by rw [str_size] at h; exact h
  have e : (strOfNums l)[k]'h = UInt8.ofNat (l[k]).toNat := by
    show (strOfNums l).data[k]'_ = _
    simp [strOfNums]
  have hb := hl l[k] (List.getElem_mem hk)
  rw [e]
  simp [List.getD, hk]
  omega

theorem drop_at (l : List Int) (k : Nat) (hk : k < l.length) : l.drop k = l.getD k 0 :: l.drop (k + 1) := by
  rw [List.drop_eq_getElem_cons hk]
  simp [List.getD, hk]
theorem comL_nil_left (r : List Int) : comL [] r = 0 := by unfold comL; rfl
theorem comL_nil_right (l : List Int) : comL l [] = 0 := by cases l <;> (unfold comL; rfl)

set_option maxHeartbeats 1000000 in
theorem common_l (l r : List Int) (hl : ∀ x ∈ l, 0 ≤ x ∧ x ≤ 255) (hr : ∀ x ∈ r, 0 ≤ x ∧ x ≤ 255) (h1 : l.length ≤ 140737488355328) (h2 : r.length ≤ 140737488355328) (w : World) :
    Calls Try.prog 42 #[.string (strOfNums l), .string (strOfNums r)] w fun e w' => e = .returned (.int .i64 (comL l r)) ∧ ∃ d, w' = w.drewN d := by
  have s1 := str_size l
  have s2 := str_size r
  go_enter Try.func42, Try.ntmps42
  go_wp2_with fail
  go_loopw [5] (fun i wr => ∃ k d : Nat, k ≤ l.length ∧ k ≤ r.length ∧ i = .int .i64 k ∧ Hid (comL l r = k + comL (l.drop k) (r.drop k)) ∧ wr = w.drewN d) (fun i _ => l.length - (intOf i).toNat)
  case atStart => exact ⟨0, 0, Nat.zero_le _, Nat.zero_le _, rfl, by simp [Hid], rfl⟩
  case round =>
    obtain ⟨k, d, k1, k2, rfl, HK, hwr⟩ := hrel
    have HW : Hid (wr = w.drewN d) := hwr
    clear hwr
    by_cases c1 : k < l.length
    · have c1' : (k : Int) < (l.length : Int) := by omega
      by_cases c2 : k < r.length
      · have c2' : (k : Int) < (r.length : Int) := by omega
        have j1 : k < (strOfNums l).size := by omega
        have j2 : k < (strOfNums r).size := by omega
        have y1 := str_at l hl k j1
        have y2 := str_at r hr k j2
        have b1 : 0 ≤ l.getD k 0 ∧ l.getD k 0 ≤ 255 := hl _ (by simp [List.getD, c1])
        have b2 : 0 ≤ r.getD k 0 ∧ r.getD k 0 ≤ 255 := hr _ (by simp [List.getD, c2])
        have HD : Hid (comL (l.drop k) (r.drop k) = if l.getD k 0 = r.getD k 0 then comL (l.drop (k + 1)) (r.drop (k + 1)) + 1 else 0) := by
          unfold Hid
          rw [drop_at l k c1, drop_at r k c2]
          rw [comL]
        generalize l.getD k 0 = x at *
        generalize r.getD k 0 = y at *
        by_cases hxy : x = y
        · subst hxy
          go_wp2_with fail
          go_quiet (fail)
          go_wp2_with fail
          refine ⟨⟨k + 1, d + nq, by omega, by omega, by go_num, ?_, ?_⟩, by simp [intOf]; omega⟩
          · unfold Hid
            rw [HK.out, HD.out, if_pos trivial]
            omega
          · rw [HW.out, drewN_more]
        · have hxy' : (x == y) = false := by simp [hxy]
          go_wp2_with fail
          go_quiet (fail)
          go_wp2_with fail
          go_ret
          refine ⟨?_, d + nq, by rw [HW.out, drewN_more]⟩
          rw [HK.out, HD.out, if_neg hxy]
          rfl
      · have c2' : ¬ (k : Int) < (r.length : Int) := by omega
        go_wp2_with fail
        go_quiet (fail)
        go_wp2_with fail
        go_ret
        refine ⟨?_, d + nq, by rw [HW.out, drewN_more]⟩
        rw [HK.out, List.drop_eq_nil_of_le (show r.length ≤ k by omega), comL_nil_right]
        rfl
    · have c1' : ¬ (k : Int) < (l.length : Int) := by omega
      go_wp2_with fail
      go_quiet (fail)
      go_wp2_with fail
      go_ret
      refine ⟨?_, d + nq, by rw [HW.out, drewN_more]⟩
      rw [HK.out, List.drop_eq_nil_of_le (show l.length ≤ k by omega), comL_nil_left]
      rfl
theorem common_any (a b : ByteArray) (h1 : a.size ≤ 140737488355328) (h2 : b.size ≤ 140737488355328) (w : World) :
    Calls Try.prog 42 #[.string a, .string b] w fun e w' => e = .returned (.int .i64 (comL (nums a) (nums b))) ∧ ∃ d, w' = w.drewN d := by
  have h := common_l (nums a) (nums b) (nums_octet a) (nums_octet b) (by rw [nums_length]; exact h1) (by rw [nums_length]; exact h2) w
  rw [str_nums, str_nums] at h
  exact h

theorem World.cell?_alloc_of {w : World} {a : Addr} {x : Value} (h : w.cell? a = some x) (o : Obj) : (w.alloc o).cell? a = some x := by
  have := (up_alloc w o).cell (World.block_lt_of_cell? w a h)
  rw [this]
  exact h

theorem refBeforeP (a b : En) (x : Bool) (h : beforeE a b = x) (w : World) : Calls Try.prog 40 #[enV a, enV b] w fun e w' => e = .returned (.bool x) ∧ Below w.heap.size w w' := by
  refine (refBefore_any a b w).mono ?_
  rintro e w' ⟨rfl, rfl⟩
  exact ⟨by rw [h], up_al (up_alloc _ _) _⟩

/-- The version ahead. -/
def prevE (l : List En) (k : Nat) : Option En := if k = 0 then none else l[k - 1]?
theorem ordE_at (l : List En) (k : Nat) (x : En) (h : l[k]? = some x) : ordE (prevE l k) (l.drop k) = if mayE x then (if aheadE (prevE l k) x then ordE (prevE l (k + 1)) (l.drop (k + 1)) else 81) else 1 := by
  have hk := (List.getElem?_eq_some_iff.1 h).1
  rw [List.drop_eq_getElem_cons hk, (List.getElem?_eq_some_iff.1 h).2]
  rw [ordE]
  have e : prevE l (k + 1) = some x := by unfold prevE; rw [if_neg (by omega)]; exact h
  rw [e]

set_option maxHeartbeats 2000000 in
set_option maxRecDepth 100000 in
theorem refOrdered_any (l : List En) (v : Value) (w : World) (hv : EntsR w v l) :
    Calls Try.prog 16 #[v] w fun e w' => e = .returned (.int .i64 (ordE none l)) ∧ Below w.heap.size w w' := by
  have HV : Hid (EntsR w v l) := hv
  obtain ⟨a, c, rfl, hc, hm⟩ := hv.len
  have hl63 : l.length ≤ 9223372036854775807 := by unfold maxLen at hm; omega
  clear hv
  go_enter Try.func16, Try.ntmps16
  go_wp2_with fail
  go_loopw [3] (fun i wr => ∃ k : Nat, k ≤ l.length ∧ i = .int .i64 k ∧ Hid (ordE none l = ordE (prevE l k) (l.drop k)) ∧ Hid (Below w.heap.size w wr)) (fun i _ => l.length - (intOf i).toNat)
  case atStart => exact ⟨0, Nat.zero_le _, rfl, rfl, Below.refl _ _⟩
  case round =>
    obtain ⟨k, hk, rfl, HK, HB⟩ := hrel
    by_cases hlt : k < l.length
    · have hlt' : (k : Int) < (l.length : Int) := by omega
      obtain ⟨b, off, cap, x, e, hx, z0, z1, z2, z3⟩ := (HV.out.up HB.out).at k hlt
      simp at e
      obtain ⟨rfl, rfl⟩ := e
      have HO : Hid (ordE (prevE l k) (l.drop k) = if mayE x then (if aheadE (prevE l k) x then ordE (prevE l (k + 1)) (l.drop (k + 1)) else 81) else 1) := ordE_at l k x hx
      have HX : Hid (l[k]? = some x) := hx
      clear hx
      have HMY : Hid (∀ W : World, Calls Try.prog 39 #[.agg #[.string x.key, .int .i64 x.seq, .int .i64 x.kind, .string x.val]] W fun e w' => e = .returned (.bool (mayE x)) ∧ w' = W.alloc (enObj x)) := fun W => refMay_any x W
      cases hmy : mayE x
      · rw [hmy] at HMY
        have HR : Hid (ordE none l = 1) := by unfold Hid; rw [HK.out, HO.out, hmy]; rfl
        go_wp2_with fail
        refine (HMY.out _).mono ?_
        rintro e w1 ⟨rfl, rfl⟩
        go_wp2_with fail
        go_ret
        exact ⟨ret_int HR.out.symm, up_al HB.out _⟩
      · rw [hmy] at HMY
        have HB1 : Hid (Below w.heap.size w (wr.alloc (enObj x))) := up_al HB.out _
        go_wp2_with fail
        refine (HMY.out _).mono ?_
        rintro e w1 ⟨rfl, rfl⟩
        by_cases h0 : k = 0
        · subst h0
          have HR : Hid (ordE none l = ordE (prevE l (0 + 1)) (l.drop (0 + 1))) := by unfold Hid; rw [HK.out, HO.out, hmy]; rfl
          generalize wr.alloc (enObj x) = W1 at *
          clear z0 z1 z2 z3
          go_wp2_with fail
          go_quiet (fail)
          go_wp2_with fail
          exact ⟨⟨1, by omega, by go_num, HR, up_trans HB1.out (up_drewN _ _)⟩, by simp [intOf]; omega⟩
        · obtain ⟨j, hj⟩ : ∃ j, k = j + 1 := ⟨k - 1, by omega⟩
          obtain ⟨b2, off2, cap2, y, e2, hy, t0, t1, t2, t3⟩ := (HV.out.up HB.out).at j (by omega)
          simp at e2
          obtain ⟨⟨rfl, rfl⟩, rfl⟩ := e2
          have hjj : (k : Int) - 1 = (j : Int) := by omega
          have hj0 : 0 < k := by omega
          have hwj : IntKind.i64.wrap (j : Int) = (j : Int) := by rw [IntKind.wrap_i64]; omega
          have hjl : (j : Int) < (l.length : Int) := by omega
          have hpe : prevE l k = some y := by unfold prevE; rw [if_neg (by omega), hj]; exact hy
          have HAH : Hid (aheadE (prevE l k) x = beforeE y x) := by unfold Hid aheadE; rw [hpe]
          clear hj
          have m0 := World.cell?_alloc_of z0 (enObj x)
          have m1 := World.cell?_alloc_of z1 (enObj x)
          have m2 := World.cell?_alloc_of z2 (enObj x)
          have m3 := World.cell?_alloc_of z3 (enObj x)
          have n0 := World.cell?_alloc_of t0 (enObj x)
          have n1 := World.cell?_alloc_of t1 (enObj x)
          have n2 := World.cell?_alloc_of t2 (enObj x)
          have n3 := World.cell?_alloc_of t3 (enObj x)
          clear z0 z1 z2 z3 t0 t1 t2 t3 hy hpe
          generalize wr.alloc (enObj x) = W1 at *
          have m0 := cell_up m0
          have m1 := cell_up m1
          have m2 := cell_up m2
          have m3 := cell_up m3
          have n0 := cell_up n0
          have n1 := cell_up n1
          have n2 := cell_up n2
          have n3 := cell_up n3
          have HQ : Hid (∀ x', beforeE y x = x' → ∀ W : World, Calls Try.prog 40 #[.agg #[.string y.key, .int .i64 y.seq, .int .i64 y.kind, .string y.val], .agg #[.string x.key, .int .i64 x.seq, .int .i64 x.kind, .string x.val]] W fun e w' => e = .returned (.bool x') ∧ Below W.heap.size W w') := fun x' h W => refBeforeP y x x' h W
          cases hbf : beforeE y x
          · have HR : Hid (ordE none l = 81) := by unfold Hid; rw [HK.out, HO.out, hmy, HAH.out, hbf]; rfl
            have HQ2 := (show Hid _ from HQ.out false hbf)
            clear HQ hbf
            go_wp2_with fail
            refine wp_region_up (by kernel_rfl) (by kernel_rfl) ?_
            repeat (quiet_step (first | (go_at_call 40; refine calls_up (HQ2.out _))))
            refine wpQuiet_nil ?_
            intro _ hw'
            obtain ⟨p, hw''⟩ := hw'
            subst hw''
            go_wp2_with fail
            go_ret
            exact ⟨ret_int HR.out.symm, up_trans HB1.out p.up⟩
          · have HR : Hid (ordE none l = ordE (prevE l (k + 1)) (l.drop (k + 1))) := by unfold Hid; rw [HK.out, HO.out, hmy, HAH.out, hbf]; rfl
            have HQ2 := (show Hid _ from HQ.out true hbf)
            clear HQ hbf
            go_wp2_with fail
            refine wp_region_up (by kernel_rfl) (by kernel_rfl) ?_
            repeat (quiet_step (first | (go_at_call 40; refine calls_up (HQ2.out _))))
            refine wpQuiet_nil ?_
            intro _ hw'
            obtain ⟨p, hw''⟩ := hw'
            subst hw''
            go_wp2_with fail
            exact ⟨⟨k + 1, by omega, by go_num, HR, up_trans HB1.out p.up⟩, by simp [intOf]; omega⟩
    · have hlt' : ¬ (k : Int) < (l.length : Int) := by omega
      obtain rfl : k = l.length := by omega
      go_wp2_with fail
      go_ret
      refine ⟨ret_int ?_, HB.out⟩
      rw [HK.out, List.drop_length]
      rfl
end Go.Proofs.Ytekoniaobmapdab

/- append of octets and of texts onto octets of the call's own: where the answer lies. -/
namespace Go.Proofs.Ytekoniaobmapdab
open Go.RowKit SumPlain
set_option linter.unusedVariables false
set_option linter.unusedSimpArgs false

theorem wpList_append_octs_at (w : World) {ops : Array Oper} {rest : List Oper} {o : Oper} {a : Act} {Q : Exit → Act → World → Prop} (hgd : o.guard = none) (s x : Operand)
    (ho : o.op = .call { callee := .builtin .append, args := #[s, x], argTypes := #[25, 25] }) (base : Nat) (v : Value) (l0 : List Int) (hs : a.eval s = v) (hown : OwnB w base v l0)
    (vx : Value) (lx : List Int) (hx : a.eval x = vx) (hO : Octs w vx lx) (hsz : l0.length + lx.length ≤ 140737488355328) (hbase : base ≤ w.heap.size)
    (h : ∀ v' w', OwnB w' base v' (l0 ++ lx) → w.grownBy w' v.ownBlock → (v'.ownBlock = v.ownBlock ∨ v'.ownBlock = some w.heap.size) → wpList Try.prog ops Q rest (a.put o.dst v') w') : wpList Try.prog ops Q (o :: rest) a w := by
  obtain ⟨i0, hi, hz0, hz1, hz2⟩ := info_some Try.info5
  obtain ⟨hoct, hO⟩ := hO
  have fin : ∀ v' w', w'.ownsRow base 5 1 v' (l0.length + lx.length) (l0.map (Value.int .u8) ++ lx.map (Value.int .u8)) → w.grownBy w' v.ownBlock → (v'.ownBlock = v.ownBlock ∨ v'.ownBlock = some w.heap.size) → wpList Try.prog ops Q rest (a.put o.dst v') w' := by
    intro v' w' h1 h2 h3
    refine h v' w' ?_ h2 h3
    unfold OwnB
    rw [List.length_append, List.map_append]
    exact h1
  rcases hO with ⟨rfl, ax, cap, rfl, hn⟩ | ⟨hne, b, off, cap, rfl, hcap, hm, hc⟩
  · cases ax with
    | none =>
      obtain rfl := hn rfl
      refine wpList_append_own_none hgd s x 25 ho base 5 i0 1 Try.underlying25 hi v l0.length (l0.map (Value.int .u8)) hs hown hx ?_
      refine fin v w ?_ (grown_refl w _) (.inl rfl)
      unfold OwnB at hown
      simpa using hown
    | some ad =>
      refine wpList_append_own_at w hgd s x 25 ho base 5 i0 (.int .u8 0) 1 1 Try.underlying25 hi hz0 hz1 hz2 rfl (by decide) v l0.length _ hs hown ad 0 cap [] hx rfl (fun j u hj => by simp at hj) (fun u hu => by cases hu) ?_ ?_ hbase ?_
      · simp only [List.length_nil] at hsz; unfold maxLen; omega
      · simp only [List.length_nil] at hsz; omega
      · intro v' w' h1 h2 _ h4
        exact fin v' w' (by simpa using h1) h2 h4
  · refine wpList_append_own_at w hgd s x 25 ho base 5 i0 (.int .u8 0) 1 1 Try.underlying25 hi hz0 hz1 hz2 rfl (by decide) v l0.length _ hs hown ⟨b, off, none⟩ lx.length cap (lx.map (Value.int .u8)) hx (by simp) ?_ (one_u8 lx) ?_ ?_ hbase ?_
    · intro j u hj
      rw [List.getElem?_map] at hj
      cases hx : lx[j]? with
      | none => rw [hx] at hj; cases hj
      | some y =>
        rw [hx] at hj
        simp at hj
        subst hj
        rw [Addr.add_lit]
        exact hc j y hx
    · unfold maxLen; omega
    · omega
    · intro v' w' h1 h2 _ h4
      exact fin v' w' h1 h2 h4

/-- Octets that are written out in the statement itself, near. -/
theorem wpList_append_lits_at (w0 : World) {ops : Array Oper} {rest : List Oper} {o : Oper} {a : Act} {Q : Exit → Act → World → Prop} (hgd : o.guard = none) (s x : Operand)
    (ho : o.op = .call { callee := .builtin .append, args := #[s, x], argTypes := #[25, 25] }) (base : Nat) (v : Value) (l0 : List Int) (hs : a.eval s = v) (hown : OwnB w0 base v l0)
    (lx : List Int) (n : Nat) (cs : Array Value) (hx : a.eval x = .slice (some ⟨w0.heap.size, 0, none⟩) n n) (hn : lx.length = n) (hcs : (lx.map (Value.int .u8)).toArray = cs) (hoct : ∀ y ∈ lx, 0 ≤ y ∧ y ≤ 255) (hsz : l0.length + lx.length ≤ 140737488355328) (hbase : base ≤ w0.heap.size)
    (h : ∀ v' w', OwnB w' base v' (l0 ++ lx) → w0.grownBy w' v.ownBlock → (v'.ownBlock = v.ownBlock ∨ ∃ g, v'.ownBlock = some g ∧ w0.heap.size ≤ g) → wpList Try.prog ops Q rest (a.put o.dst v') w') : wpList Try.prog ops Q (o :: rest) a (w0.alloc (.cells cs 5)) := by
  subst hn
  subst hcs
  refine wpList_append_octs_at _ hgd s x ho base v l0 hs (World.ownsRow.alloc hown _) _ lx hx (Octs.made w0 lx hoct (by unfold maxLen; omega)) hsz (by simp; omega) ?_
  intro v' w' h1 h2 h3
  refine h v' w' h1 (grown_trans (grown_up (up_alloc _ _) _) h2) ?_
  rcases h3 with h3 | h3
  · exact .inl h3
  · exact .inr ⟨_, h3, by simp⟩

theorem strCells_nums (s : ByteArray) : Lib.strCells s = (nums s).map (Value.int .u8) := by
  simp [Lib.strCells, nums, List.map_map, Function.comp_def]

theorem append_str_run (w : World) (ty : TypeId) (base : Nat) (v : Value) (l0 : List Int) (hown : OwnB w base v l0) (t : ByteArray) (hsz : l0.length + t.size ≤ 140737488355328) (hbase : base ≤ w.heap.size) :
    ∃ v' w', (Builtin.append_ #[25, 9] ty #[v, .string t]).run Try.prog w = .ok v' w' ∧ OwnB w' base v' (l0 ++ nums t) ∧ w.grownBy w' v.ownBlock ∧ (v'.ownBlock = v.ownBlock ∨ ∃ g, v'.ownBlock = some g ∧ w.heap.size ≤ g) := by
  obtain ⟨i0, hi, hz0, hz1, hz2⟩ := info_some Try.info5
  have key : ∀ base', base' ≤ w.heap.size → OwnB w base' v l0 → ∃ v' w', (Builtin.append_ #[25, 9] ty #[v, .string t]).run Try.prog w = .ok v' w' ∧ OwnB w' base' v' (l0 ++ nums t) ∧ w.grownBy w' v.ownBlock := by
    intro base' hb' ho'
    obtain ⟨v', w', h1, h2, h3, _⟩ := Lib.run_append_own_string (P := Try.prog) w base' 25 9 ty 5 i0 Try.underlying25 Try.underlying9 hi hz0 hz1 hz2 v l0.length _ ho' t (by unfold maxLen; omega) hsz hb'
    refine ⟨v', w', h1, ?_, h3⟩
    unfold OwnB
    rw [List.length_append, nums_length, List.map_append, ← strCells_nums]
    exact h2
  obtain ⟨v', w', h1, h2, h3⟩ := key base hbase hown
  refine ⟨v', w', h1, h2, h3, ?_⟩
  obtain ⟨hl, hcase⟩ := hown
  rcases hcase with ⟨rfl, h0⟩ | ⟨g, cap, cur, rfl, hg, hb, hn, hm, hcs, htk⟩
  · have hnil : l0 = [] := by cases l0 with | nil => rfl | cons _ _ => simp at h0
    subst hnil
    obtain ⟨v2, w2, k1, k2, _⟩ := key w.heap.size (Nat.le_refl _) (OwnB.nil _ _)
    rw [h1] at k1
    injection k1 with e1 e2
    subst e1 e2
    cases ho : v'.ownBlock with
    | none => exact .inl rfl
    | some g => exact .inr ⟨g, rfl, (k2.lt g ho).1⟩
  · by_cases hroom : l0.length + t.size ≤ cap
    · have hr := Lib.run_append_room_string (P := Try.prog) w 25 9 ty 5 i0 Try.underlying25 Try.underlying9 hi hz1 g l0.length cap cur hb t hroom (by rw [hcs]; omega)
      rw [h1] at hr
      injection hr with e1 e2
      subst e1
      exact .inl rfl
    · have holds : ∀ j u, (l0.map (Value.int .u8))[j]? = some u → w.cell? ((⟨g, 0, none⟩ : Addr).add j) = some u := World.ownsRow.cells (g := g) (base := base) (e := 5) (size := 1) (n := l0.length) ⟨hl, .inr ⟨g, cap, cur, rfl, hg, hb, hn, hm, hcs, htk⟩⟩ rfl
      have hr := Lib.run_append_grow_string (P := Try.prog) w 25 9 ty 5 i0 (.int .u8 0) Try.underlying25 Try.underlying9 hi hz0 ⟨g, 0, none⟩ l0.length cap (l0.map (Value.int .u8)) (by rw [List.length_map, hz1, Nat.mul_one]) holds t (by omega) (by omega) (by rw [hz2]; exact growslice_fits (by omega) (by omega))
      rw [h1] at hr
      injection hr with e1 e2
      subst e1
      exact .inr ⟨_, rfl, Nat.le_refl _⟩

theorem wpList_append_str_at (w : World) {ops : Array Oper} {rest : List Oper} {o : Oper} {a : Act} {Q : Exit → Act → World → Prop} (hgd : o.guard = none) (s x : Operand)
    (ho : o.op = .call { callee := .builtin .append, args := #[s, x], argTypes := #[25, 9] }) (base : Nat) (v : Value) (l0 : List Int) (hs : a.eval s = v) (hown : OwnB w base v l0)
    (t : ByteArray) (hx : a.eval x = .string t) (hsz : l0.length + t.size ≤ 140737488355328) (hbase : base ≤ w.heap.size)
    (h : ∀ v' w', OwnB w' base v' (l0 ++ nums t) → w.grownBy w' v.ownBlock → (v'.ownBlock = v.ownBlock ∨ ∃ g, v'.ownBlock = some g ∧ w.heap.size ≤ g) → wpList Try.prog ops Q rest (a.put o.dst v') w') : wpList Try.prog ops Q (o :: rest) a w := by
  refine wpList_plain hgd fun K hK => ?_
  obtain ⟨v', w', hr, h2, h3, h4⟩ := append_str_run w o.type base v l0 hown t hsz hbase
  unfold Oper.wp execOp
  simp only [ho, resolve, invoke, builtin, Sem.run_bind, Sem.run_pure, Result.andThen_ok, List.map_toArray, List.map_cons, List.map_nil, hs, hx, hr]
  exact hK _ _ (h v' w' h2 h3 h4)
end Go.Proofs.Ytekoniaobmapdab
