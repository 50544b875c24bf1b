/- The law SumThree, walked. -/
import Derived.Test.YtlomjgejdeghhaaBareAny
import Derived.Deep.CutRange
import Derived.BigCall
namespace Go.Proofs.Ytlomjgejdeghhaa
open Go.RowKit SumPlain
set_option linter.unusedVariables false

/-- So far three texts are laid over each other. -/
def threeK (a b c : List Int) (n k : Nat) : List Int := (xorL (xorL (a.take k) (b.take k)) (c.take k)) ++ List.replicate (n - k) 0

theorem threeK_zero (a b c : List Int) (n : Nat) : threeK a b c n 0 = List.replicate n 0 := by simp [threeK, xorL]

theorem xorL_len (a b : List Int) (h : a.length = b.length) : (xorL a b).length = a.length := by simp [xorL, h]

theorem xorL_snoc (a b : List Int) (x y : Int) (h : a.length = b.length) : xorL (a ++ [x]) (b ++ [y]) = xorL a b ++ [bits .xor .u8 x y] := by
  unfold xorL
  rw [List.zipWith_append h]
  rfl

theorem three_len (a b c : List Int) (k : Nat) (ha : k ≤ a.length) (hb : k ≤ b.length) (hc : k ≤ c.length) : (xorL (xorL (a.take k) (b.take k)) (c.take k)).length = k := by
  simp [xorL]
  omega

theorem threeK_step (a b c : List Int) (n k : Nat) (hk : k < n) (ha : n ≤ a.length) (hb : n ≤ b.length) (hc : n ≤ c.length) :
    (threeK a b c n k).set k (bits .xor .u8 (bits .xor .u8 (a.getD k 0) (b.getD k 0)) (c.getD k 0)) = threeK a b c n (k + 1) := by
  unfold threeK
  have e : n - k = (n - (k + 1)) + 1 := by omega
  have l1 : (a.take k).length = (b.take k).length := by simp; omega
  have l2 : (xorL (a.take k) (b.take k)).length = (c.take k).length := by rw [xorL_len _ _ l1]; simp; omega
  have hl := three_len a b c k (by omega) (by omega) (by omega)
  rw [e, List.replicate_succ, List.set_append_right _ _ (by omega), hl, Nat.sub_self, List.set_cons_zero, take_snoc a k 0 (by omega), take_snoc b k 0 (by omega), take_snoc c k 0 (by omega), xorL_snoc _ _ _ _ l1, xorL_snoc _ _ _ _ l2]
  simp

theorem threeK_len (a b c : List Int) (n k : Nat) (hk : k ≤ n) (ha : n ≤ a.length) (hb : n ≤ b.length) (hc : n ≤ c.length) : (threeK a b c n k).length = n := by
  unfold threeK
  rw [List.length_append, three_len a b c k (by omega) (by omega) (by omega), List.length_replicate]
  omega

theorem threeK_all (a b c : List Int) (n : Nat) : threeK a b c n n = xorL (xorL (a.take n) (b.take n)) (c.take n) := by simp [threeK]

/-- The first n of octets. -/
theorem Octs.first {w : World} {a : Option Addr} {cap : Nat} {l : List Int} (h : Octs w (.slice a l.length cap) l) (n : Nat) (hn : n ≤ l.length) : Octs w (.slice a n cap) (l.take n) := by
  have hlen : (l.take n).length = n := by rw [List.length_take]; omega
  obtain ⟨hx, h⟩ := h
  refine ⟨fun x hp => hx x (List.mem_of_mem_take hp), ?_⟩
  by_cases c : n = 0
  · subst c
    rcases h with ⟨h0, a', cap', e, hz⟩ | ⟨_, b, off, cap', e, _, _, _⟩
    · simp at e
      obtain ⟨rfl, _, rfl⟩ := e
      exact .inl ⟨by simp, a, cap, rfl, hz⟩
    · simp at e
      obtain ⟨rfl, rfl⟩ := e
      exact .inl ⟨by simp, _, _, rfl, fun h => by cases h⟩
  · rcases h with ⟨rfl, _⟩ | ⟨_, b, off, cap', e, hc, hm, hj⟩
    · simp at hn; omega
    · simp at e
      obtain ⟨rfl, rfl⟩ := e
      refine .inr ⟨?_, b, off, cap, by rw [hlen], by omega, hm, fun j x hjx => hj j x ?_⟩
      · intro e
        rw [e] at hlen
        simp at hlen
        omega
      · rw [List.getElem?_take] at hjx
        split at hjx
        · exact hjx
        · cases hjx

set_option maxHeartbeats 1000000 in
theorem three_walk (va vb vc : Value) (la lb lc : List Int) (w : World) (ha : Octs w va la) (hla : la.length ≤ 140737488351232) (hb : Octs w vb lb) (hlb : lb.length ≤ 140737488351232) (hc : Octs w vc lc) (hlc : lc.length ≤ 140737488351232) :
    Calls Try.prog 7 #[va, vb, vc] w fun e w' => e = .returned (.bool true) ∧ Below w.heap.size w w' := by
  have HA : Hid (Octs w va la) := ha
  have HB : Hid (Octs w vb lb) := hb
  have HC : Hid (Octs w vc lc) := hc
  obtain ⟨aa, capa, rfl, _, _⟩ := ha.len
  obtain ⟨ab, capb, rfl, _, _⟩ := hb.len
  obtain ⟨ac, capc, rfl, _, _⟩ := hc.len
  clear ha hb hc
  obtain ⟨n, hn⟩ : ∃ n : Nat, n = min la.length (min lb.length lc.length) := ⟨_, rfl⟩
  have na : n ≤ la.length := by omega
  have nb : n ≤ lb.length := by omega
  have nc : n ≤ lc.length := by omega
  have HN : Hid ((n = la.length ∨ n = lb.length ∨ n = lc.length)) := by unfold Hid; omega
  clear hn
  have hmk : ∀ w : World, (Instr.makeSlice 22 (.int .i64 (n : Int)) (.int .i64 (n : Int))).run Try.prog w = .ok (.slice (some ⟨w.heap.size, 0, none⟩) n n) (w.alloc (.cells (madeCells #[.int .u8 0] n) 5)) :=
    run_make_row' (P := Try.prog) 22 5 (.int .u8 0) 1 Try.underlying22 Try.info5 rfl .i64 .i64 n (by omega) (by omega)
  go_enter Try.func7, Try.ntmps7
  go_wp2_with fail
  refine (alive_any _).mono ?_
  rintro e w1 ⟨rfl, hb1⟩
  go_upto_region 3 with fail
  go_cut [7] from 10 (fun s7 wx => s7 = .int .i64 n ∧ wx = w1)
  case first =>
    go_wp2
    all_goals
      go_meet
      case rel =>
        have h := HN.out
        exact ⟨by congr 1; (repeat' split) <;> omega, rfl⟩
  case rest =>
  obtain ⟨rfl, rfl⟩ := hcut
  have HOwn0 : Hid (OwnB (wc.alloc (.cells (madeCells #[.int .u8 0] n) 5)) wc.heap.size (.slice (some ⟨wc.heap.size, 0, none⟩) n n) (threeK la lb lc n 0)) := by
    unfold Hid OwnB
    rw [threeK_zero, List.length_replicate]
    have e := World.ownsRow_lit (base := wc.heap.size) (e := 5) (size := 1) wc (madeCells #[.int .u8 0] n) n (Nat.le_refl _) (by unfold maxLen; omega) (by rw [size_madeCells]; omega)
    rw [toList_madeCells_one] at e
    rw [List.map_replicate]
    exact e
  have up0 : Hid (∀ o, Below w.heap.size w (wc.alloc o)) := fun o => up_al hb1 o
  have hsz := hb1.size
  clear hb1
  go_wp2_with fail
  go_loopw [9] (fun i wr => ∃ k : Nat, k ≤ n ∧ i = .int .i64 k ∧ Hid (OwnB wr wc.heap.size (.slice (some ⟨wc.heap.size, 0, none⟩) n n) (threeK la lb lc n k)) ∧ Hid (Below w.heap.size w wr)) (fun i _ => n - (intOf i).toNat)
  case atStart => exact ⟨0, Nat.zero_le _, rfl, HOwn0, up0.out _⟩
  case round =>
    obtain ⟨k, hk, rfl, HOwn, up⟩ := hrel
    by_cases hlt : k < n
    · have hlt' : (k : Int) < (n : Int) := by omega
      have hkl := threeK_len la lb lc n k hk na nb nc
      have hcell := HOwn.out
      unfold OwnB at hcell
      rw [hkl] at hcell
      have hc0 := hcell.cellAt k (by omega)
      have hf0 := hcell.frozenAt k
      obtain ⟨y, hy⟩ : ∃ y, (threeK la lb lc n k)[k]? = some y := ⟨_, List.getElem?_eq_getElem (by omega)⟩
      rw [List.getElem?_map, hy] at hc0
      simp only [Option.map_some] at hc0
      have hst := hcell.stored k (.int .u8 (bits .xor .u8 (bits .xor .u8 (la.getD k 0) (lb.getD k 0)) (lc.getD k 0)))
      have HSt : Hid (OwnB (wr.setCell ⟨wc.heap.size, k, none⟩ (.int .u8 (bits .xor .u8 (bits .xor .u8 (la.getD k 0) (lb.getD k 0)) (lc.getD k 0)))) wc.heap.size (.slice (some ⟨wc.heap.size, 0, none⟩) n n) (threeK la lb lc n (k + 1))) := by
        unfold Hid OwnB
        rw [threeK_len la lb lc n (k + 1) (by omega) na nb nc, ← threeK_step la lb lc n k hlt na nb nc, List.map_set]
        exact hst.1
      have up2 : Hid (∀ v, Below w.heap.size w (wr.setCell ⟨wc.heap.size, k, none⟩ v)) := fun v => Below.setCell up.out hsz v
      clear hst hcell
      obtain ⟨ba, oa, ca', e, _, _, hca⟩ := HA.out.at k (by omega)
      simp at e
      obtain ⟨rfl, rfl⟩ := e
      have nba : wc.heap.size ≠ ba := by
        have := World.block_lt_of_cell? w ⟨ba, oa + k, none⟩ hca
        simp at this
        omega
      have hca := (up.out.cell (p := ⟨ba, oa + k, none⟩) (World.block_lt_of_cell? w ⟨ba, oa + k, none⟩ hca)).trans hca
      obtain ⟨bb, ob', cb', e, _, _, hcb⟩ := HB.out.at k (by omega)
      simp at e
      obtain ⟨rfl, rfl⟩ := e
      have nbb : wc.heap.size ≠ bb := by
        have := World.block_lt_of_cell? w ⟨bb, ob' + k, none⟩ hcb
        simp at this
        omega
      have hcb := (up.out.cell (p := ⟨bb, ob' + k, none⟩) (World.block_lt_of_cell? w ⟨bb, ob' + k, none⟩ hcb)).trans hcb
      obtain ⟨bc, oc, cc', e, _, _, hcc⟩ := HC.out.at k (by omega)
      simp at e
      obtain ⟨rfl, rfl⟩ := e
      have nbc : wc.heap.size ≠ bc := by
        have := World.block_lt_of_cell? w ⟨bc, oc + k, none⟩ hcc
        simp at this
        omega
      have hcc := (up.out.cell (p := ⟨bc, oc + k, none⟩) (World.block_lt_of_cell? w ⟨bc, oc + k, none⟩ hcc)).trans hcc
      have ka : (k : Int) < (la.length : Int) := by omega
      have kb : (k : Int) < (lb.length : Int) := by omega
      have kc : (k : Int) < (lc.length : Int) := by omega
      have k0 : (0 : Int) ≤ (k : Int) := by omega
      generalize la.getD k 0 = xa at *
      generalize lb.getD k 0 = xb at *
      generalize lc.getD k 0 = xc at *
      go_wp2_with fail
      go_region_held3 (fun w' => w'.cell? ⟨ba, oa + k, none⟩ = some (.int .u8 xa) ∧ w'.cell? ⟨bb, ob' + k, none⟩ = some (.int .u8 xb) ∧ w'.cell? ⟨bc, oc + k, none⟩ = some (.int .u8 xc)) (go_keep) (fail)
      all_goals
        go_wp2
        exact ⟨⟨k + 1, by omega, by go_num, HSt, up_dr (up2.out _)⟩, by simp [intOf]; omega⟩
    · have hlt' : ¬ (k : Int) < (n : Int) := by omega
      obtain rfl : k = n := by omega
      have HX : Hid (Octs wr (.slice (some ⟨wc.heap.size, 0, none⟩) k k) (xorL (xorL (la.take k) (lb.take k)) (lc.take k))) := by
        have e := Octs.own HOwn.out (by
          rw [threeK_all]
          exact (ob_xorL _ _ (ob_xorL _ _ (fun x hx => HA.out.1 x (List.mem_of_mem_take hx)) (fun x hx => HB.out.1 x (List.mem_of_mem_take hx))).2 (fun x hx => HC.out.1 x (List.mem_of_mem_take hx))).2)
        rw [threeK_all] at e
        exact e
      have HXa : Hid (Octs wr (.slice aa k capa) (la.take k)) := (HA.out.up up.out).first k na
      have HXb : Hid (Octs wr (.slice ab k capb) (lb.take k)) := (HB.out.up up.out).first k nb
      have HXc : Hid (Octs wr (.slice ac k capc) (lc.take k)) := (HC.out.up up.out).first k nc
      have HE : Hid (ext ones (xorL (xorL (la.take k) (lb.take k)) (lc.take k)) = ext ones (la.take k) ^^^ ext ones (lb.take k) ^^^ ext ones (lc.take k)) := ext_three _ _ _ (fun x hx => HA.out.1 x (List.mem_of_mem_take hx)) (fun x hx => HB.out.1 x (List.mem_of_mem_take hx)) (fun x hx => HC.out.1 x (List.mem_of_mem_take hx)) (by simp; omega) (by simp; omega)
      have ka : (k : Int) ≤ (capa : Int) := by omega
      have kb : (k : Int) ≤ (capb : Int) := by omega
      have kc : (k : Int) ≤ (capc : Int) := by omega
      have k0 : (0 : Int) ≤ (k : Int) := by omega
      clear HA HB HC HOwn
      go_wp2_with fail
      go_region_held3 (fun _ => True) (trivial) (first
        | (go_at_call 12; refine (sum_any _ (.slice (some ⟨wc.heap.size, 0, none⟩) k k) _ (HX.out.up (up_dr (Below.refl _ _)))).mono ?_; rintro e w5 ⟨rfl, rfl⟩)
        | (go_at_call 12; refine (sum_any _ (.slice aa k capa) _ (HXa.out.up (up_dr (Below.refl _ _)))).mono ?_; rintro e w5 ⟨rfl, rfl⟩)
        | (go_at_call 12; refine (sum_any _ (.slice ab k capb) _ (HXb.out.up (up_dr (Below.refl _ _)))).mono ?_; rintro e w5 ⟨rfl, rfl⟩)
        | (go_at_call 12; refine (sum_any _ (.slice ac k capc) _ (HXc.out.up (up_dr (Below.refl _ _)))).mono ?_; rintro e w5 ⟨rfl, rfl⟩))
      all_goals
        go_wp2
        go_ret
        refine ⟨ret_bool ?_, up_dr up.out⟩
        rw [xor32, xor32, HE.out]
        simp
end Go.Proofs.Ytlomjgejdeghhaa
