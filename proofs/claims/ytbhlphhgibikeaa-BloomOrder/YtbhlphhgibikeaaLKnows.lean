/- The walk of BloomKnows. -/
import Derived.Test.YtbhlphhgibikeaaLOwn
import Derived.Deep.RegionHeld3
namespace Go.Proofs.Ytbhlphhgibikeaa
open Go.RowKit
set_option linter.unusedVariables false
set_option linter.unusedSimpArgs false

/-- A number brought into 1 to 16. -/
theorem each_in (each : Int) : ∃ t u : Int, each.tmod 16 = t ∧ -15 ≤ t ∧ t ≤ 15 ∧ (t + 16).tmod 16 = u ∧ (t + 16) % 16 = u ∧ 0 ≤ u ∧ u ≤ 15 := by
  have h1 := Int.lt_tmod_of_pos each (show (0 : Int) < 16 by decide)
  have h2 := Int.tmod_lt_of_pos each (show (0 : Int) < 16 by decide)
  refine ⟨each.tmod 16, (each.tmod 16 + 16) % 16, rfl, by omega, by omega, ?_, rfl, by omega, by omega⟩
  rw [Int.tmod_eq_emod_of_nonneg (by omega)]

/-- Octets that have all bits of others. -/
def Cov (l cur : List Int) : Prop := cur.length = l.length ∧ ∀ o b, ¬ ((l.getD o 0).toNat &&& b) = 0 → ¬ ((cur.getD o 0).toNat &&& b) = 0
theorem Cov.refl (l : List Int) : Cov l l := ⟨rfl, fun _ _ h => h⟩
theorem Cov.set {l cur : List Int} (h : Cov l cur) (k : Nat) (y : Nat) : Cov l (cur.set k ((((cur.getD k 0).toNat ||| y : Nat)) : Int)) := by
  refine ⟨by rw [List.length_set]; exact h.1, fun o b hb => ?_⟩
  have h2 := h.2 o b hb
  by_cases hk : k < cur.length
  · by_cases ho : o = k
    · subst ho
      have e : (cur.set o ((((cur.getD o 0).toNat ||| y : Nat)) : Int)).getD o 0 = ((((cur.getD o 0).toNat ||| y : Nat)) : Int) := by simp [List.getD, hk]
      rw [e, Int.toNat_natCast]
      exact and_or_zero _ _ _ h2
    · have ho' : ¬ k = o := fun e => ho e.symm
      have e : (cur.set k ((((cur.getD k 0).toNat ||| y : Nat)) : Int)).getD o 0 = cur.getD o 0 := by simp [List.getD, List.getElem?_set, ho']
      rw [e]
      exact h2
  · rw [List.set_eq_of_length_le (by omega)]
    exact h2
theorem Cov.has {h : Int} {K n : Nat} {l cur : List Int} (hc : Cov l cur) (hs : hasF h K n l = true) : hasF h K n cur = true := by
  unfold hasF at *
  rw [List.all_eq_true] at *
  intro i hi
  have := hs i hi
  rw [setB_iff] at *
  exact hc.2 _ _ this

/-- Between the rounds of the first loop. -/
structure KnW (w : World) (N7 N9 : Nat) (K : Int) (fa : Option Addr) (n fc g gc base : Nat) (l cur : List Int) (W : World) : Prop where
  f7 : FilW W N7 27 K fa n fc l
  b9 : W.heap[N9]? = some (.cells #[.int .i64 K, .slice (some ⟨g, 0, none⟩) n gc] 27)
  own : OwnB W base (.slice (some ⟨g, 0, none⟩) n gc) cur
  oct : OctL cur
  len : cur.length = n
  below : Below w.heap.size w W
  base7 : N7 < base
  baseF : ∀ b, (Value.slice fa n fc).ownBlock = some b → b < base
  baseW : w.heap.size ≤ base

theorem KnW.ne9 {w : World} {N7 N9 : Nat} {K : Int} {fa : Option Addr} {n fc g gc base : Nat} {l cur : List Int} {W : World} (H : KnW w N7 N9 K fa n fc g gc base l cur W) : N9 ≠ g := by
  have := own_blk_ne (H.own) H.b9 (by decide)
  rcases this with h | h
  · simp [Value.ownBlock] at h
  · simp [Value.ownBlock] at h
    exact fun e => h e.symm
theorem KnW.g_base {w : World} {N7 N9 : Nat} {K : Int} {fa : Option Addr} {n fc g gc base : Nat} {l cur : List Int} {W : World} (H : KnW w N7 N9 K fa n fc g gc base l cur W) : base ≤ g := (H.own.lt g rfl).1
theorem KnW.up {w : World} {N7 N9 : Nat} {K : Int} {fa : Option Addr} {n fc g gc base : Nat} {l cur : List Int} {W W' : World} (H : KnW w N7 N9 K fa n fc g gc base l cur W) (hb : Below W.heap.size W W') : KnW w N7 N9 K fa n fc g gc base l cur W' :=
  ⟨H.f7.up hb, blk_up H.b9 hb, own_up H.own hb, H.oct, H.len, up_trans H.below hb, H.base7, H.baseF, H.baseW⟩
theorem KnW.set {w : World} {N7 N9 : Nat} {K : Int} {fa : Option Addr} {n fc g gc base : Nat} {l cur : List Int} {W : World} (H : KnW w N7 N9 K fa n fc g gc base l cur W) (k : Nat) (y : Int) (hy : 0 ≤ y ∧ y ≤ 255) : KnW w N7 N9 K fa n fc g gc base l (cur.set k y) (W.setCell ⟨g, k, none⟩ (.int .u8 y)) := by
  have ho := H.own
  unfold OwnB at ho
  rw [H.len] at ho
  have hst := ho.stored k (.int .u8 y)
  have hg := hst.2
  have hgb := H.g_base
  have h9 := H.ne9
  refine ⟨H.f7.far hg (fun e => ?_) (fun b hb _ e => ?_), blk_grown H.b9 hg (fun e => ?_), ?_, ?_, by rw [List.length_set]; exact H.len, H.below.grown hg H.below.size (fun j hj => ?_), H.base7, H.baseF, H.baseW⟩
  · have := H.base7; simp at e; omega
  · have := H.baseF b hb; simp at e; omega
  · simp at e; exact h9 e
  · unfold OwnB
    rw [List.length_set, H.len, List.map_set]
    exact hst.1
  · intro x hx
    rcases List.mem_or_eq_of_mem_set hx with h1 | h1
    · exact H.oct x h1
    · rw [h1]; exact hy
  · have := H.baseW; simp at hj; omega

theorem own_some {w : World} {base : Nat} {a : Option Addr} {n c : Nat} {l : List Int} (h : OwnB w base (.slice a n c) l) (hl : 1 ≤ l.length) : ∃ g, a = some ⟨g, 0, none⟩ := by
  obtain ⟨_, h⟩ := h
  rcases h with ⟨e, h0⟩ | ⟨g, c2, cur, e, _⟩
  · omega
  · simp at e
    exact ⟨g, e.1⟩

set_option maxHeartbeats 4000000 in
theorem knows_walk (keys : List (List Int)) (hk : KeyL keys) (each : Int) (bts : List Int) (v u : Value) (w : World) (hv : TextsW w v keys) (hu : Octs w u bts) (hkl : keys.length ≤ 8796093022208) (hbl : bts.length ≤ 140737488351232) :
    Calls Try.prog 5 #[v, .int .i64 each, u] w fun e w' => e = .returned (.bool true) ∧ Below w.heap.size w w' := by
  obtain ⟨va, vc, rfl, hvc, hvm⟩ := hv.len
  obtain ⟨ua, uc, rfl, _, _⟩ := hu.len
  obtain ⟨t, eu, ht, t1, t2, hu1, hu2, u1, u2⟩ := each_in each
  have HA : Hid (∀ w : World, Calls Try.prog 20 #[] w fun e w' => e = .returned (.bool true) ∧ Hid (Below w.heap.size w w')) := fun w => alive_any w
  have HN : Hid (∀ (x : Int) (w : World), Calls Try.prog 18 #[.int .i64 x] w fun e w' => e = .returned (.int .i64 x) ∧ w' = w) := fun x w => num_any x w
  obtain ⟨m, hm⟩ : ∃ m : Nat, m = min keys.length 100 := ⟨_, rfl⟩
  have hmm : (if (100 : Int) < (keys.length : Int) then (100 : Int) else (keys.length : Int)) = (m : Int) := by rw [hm]; split <;> omega
  have hm1 : m ≤ keys.length := by omega
  have hm2 : m ≤ 100 := by omega
  have hm3 : (m : Int) ≤ (vc : Int) := by omega
  have hm4 : (0 : Int) ≤ (m : Int) := by omega
  have hm5 : m ≤ vc := by omega
  have hvm' : vc ≤ 9223372036854775807 := by unfold maxLen at hvm; omega
  clear hm
  have hfirst : TextsW w (.slice va m vc) (keys.take m) := by
    have h := Rws.first hv m (by rw [List.length_map]; exact hm1)
    unfold TextsW
    rw [List.map_take]
    exact h
  have hkt : KeyL (keys.take m) := fun s hs => hk s (List.mem_of_mem_take hs)
  have hlt : (keys.take m).length = m := by rw [List.length_take]; omega
  have he0 : errM (1 + eu) (keys.take m).length = 0 := by
    rw [hlt]
    unfold errM
    rw [if_neg (by omega), if_neg (by omega)]
  have HMK : Hid (∀ w1 : World, Below w.heap.size w w1 → Calls Try.prog 11 #[.slice va m vc, .int .i64 (1 + eu)] w1 fun e w' => ∃ a n c, e = .returned (.tuple #[.agg #[.int .i64 (makeR (keys.take m) (1 + eu)).1, .slice a n c], .int .i64 0]) ∧ Hid (n = (makeR (keys.take m) (1 + eu)).2.length) ∧ Hid (OwnB w' w1.heap.size (.slice a n c) (makeR (keys.take m) (1 + eu)).2) ∧ Hid (Below w1.heap.size w1 w')) := by
    intro w1 hb
    have h := make_any (keys.take m) hkt (1 + eu) _ w1 (hfirst.up hb)
    rw [he0] at h
    exact h
  obtain ⟨hmay, hhas⟩ := make_may he0
  have hoct := makeR_oct (keys.take m) (1 + eu)
  have HKEY : Hid (∀ (k : Nat) (W : World), k < m → Below w.heap.size w W → ∃ b off, va = some ⟨b, off, none⟩ ∧ W.cell? ⟨b, off + k, none⟩ = some (.string (strOfNums ((keys.take m).getD k [])))) := by
    intro k W hkm hW
    obtain ⟨b, off, cap, e, hc⟩ := (hfirst.up hW).at k (by rw [hlt]; exact hkm)
    simp at e
    exact ⟨b, off, e.1, hc⟩
  have HV : Hid (Octs w (.slice ua bts.length uc) bts) := hu
  generalize (makeR (keys.take m) (1 + eu)).1 = K at *
  generalize (makeR (keys.take m) (1 + eu)).2 = l at *
  have HHAS : Hid (∀ (k : Nat) (a : Option Addr) (n c : Nat) (W : World) (cur : List Int), k < m → n = l.length → Cov l cur → Octs W (.slice a n c) cur → Calls Try.prog 13 #[.agg #[.int .i64 K, .slice a n c], .string (strOfNums ((keys.take m).getD k []))] W fun e w' => e = .returned (.tuple #[.bool true, .int .i64 0]) ∧ Below W.heap.size W w') := by
    intro k a n c W cur hkm hn hcov ho
    have hmem : (keys.take m).getD k [] ∈ keys.take m := by
      have h : k < (keys.take m).length := by rw [hlt]; exact hkm
      rw [List.getD_eq_getElem?_getD, List.getElem?_eq_getElem h, Option.getD_some]
      exact List.getElem_mem h
    rw [hn, ← hcov.1] at ho ⊢
    have h := has_any _ (hkt _ hmem).1 (hkt _ hmem).2 K cur a c W ho
    have hc : chkE K cur.length = 0 := by unfold chkE; rw [hcov.1, if_pos hmay]
    rw [hc, hcov.1, hmay, hcov.has (hhas _ hmem)] at h
    rw [hcov.1]
    exact h
  have HL : Hid (OctL l ∧ 1 ≤ l.length ∧ l.length ≤ 8192) := ⟨hoct, (may_le hmay).2.2.1, (may_le hmay).2.2.2⟩
  clear hv hu hk hfirst hkt hlt he0 hmay hhas hoct
  go_enter Try.func5, Try.ntmps5
  go_wp2_with fail
  refine (HA.out _).mono ?_
  rintro e w1 ⟨rfl, b1⟩
  go_wp2_with fail
  refine (HMK.out _ b1.out).mono ?_
  rintro e w2 ⟨fa, n, fc, rfl, hn, hfo, b2⟩
  have F2 : Hid (FilW (w2.alloc (.cells #[.int .i64 K, .slice fa n fc] 27)) w2.heap.size 27 K fa n fc l) := ⟨blk_new _ _, (Octs.own hfo.out HL.out.1).up (up_alloc _ _)⟩
  have B2 : Hid (Below w.heap.size w (w2.alloc (.cells #[.int .i64 K, .slice fa n fc] 27))) := up_al (up_trans b1.out b2.out) _
  have X2 : Hid (∀ b, (Value.slice fa n fc).ownBlock = some b → b < w2.heap.size) := fun b hb => (hfo.out.lt b hb).2
  have S2 : Hid ((w2.alloc (.cells #[.int .i64 K, .slice fa n fc] 27)).heap.size = w2.heap.size + 1) := by unfold Hid; simp
  clear HMK HA
  go_wp2_with fail
  refine (HN.out _ _).mono ?_
  rintro e w3 ⟨rfl, rfl⟩
  clear hfo
  generalize w2.alloc (.cells #[.int .i64 K, .slice fa n fc] 27) = W2 at *
  generalize w2.heap.size = N7 at *
  have q0 := blk_cell F2.out.blk 0 _ rfl
  have q1 := blk_cell F2.out.blk 1 _ rfl
  have HC : Hid (Calls Try.prog 21 #[.slice fa n fc] W2.drew fun e w' => ∃ a' n' c', e = .returned (.slice a' n' c') ∧ w'.cell? ⟨N7, 0, none⟩ = some (.int .i64 K) ∧ w'.cell? ⟨N7, 1, none⟩ = some (.slice fa n fc) ∧ Hid (n' = l.length) ∧ Hid (OwnB w' (N7 + 1) (.slice a' n' c') l) ∧ Hid (Below W2.heap.size W2 w')) := by
    have hu2 : Below W2.heap.size W2 W2.drew := up_dr (Below.refl _ _)
    refine (copy_any l _ W2.drew (F2.out.oct.up hu2) (by have := HL.out.2.2; omega)).mono ?_
    rintro e w' ⟨v', rfl, ho, hbw⟩
    obtain ⟨a', n', c', rfl, hn'⟩ := own_shape ho
    have d1 := blk_up F2.out.blk (up_trans hu2 hbw)
    refine ⟨a', n', c', rfl, blk_cell d1 0 _ rfl, blk_cell d1 1 _ rfl, hn', ?_, up_trans hu2 hbw⟩
    unfold Hid
    rw [show W2.drew.heap.size = N7 + 1 from S2.out] at ho
    exact ho
  have HC2 : Hid (Calls Try.prog 21 #[.slice fa n fc] (W2.alloc (.cells #[.int .i64 0, .slice none 0 0] 27)).drew fun e w' => ∃ a' n' c', e = .returned (.slice a' n' c') ∧ w'.cell? ⟨N7, 0, none⟩ = some (.int .i64 K) ∧ w'.cell? ⟨N7, 1, none⟩ = some (.slice fa n fc) ∧
      w'.cell? ⟨W2.heap.size, 0, none⟩ = some (.int .i64 0) ∧ w'.cell? ⟨W2.heap.size, 1, none⟩ = some (.slice none 0 0) ∧ w'.frozen? ⟨W2.heap.size, 0, none⟩ = false ∧ w'.frozen? ⟨W2.heap.size, 1, none⟩ = false ∧
      Hid (w'.heap[W2.heap.size]? = some (.cells #[.int .i64 0, .slice none 0 0] 27)) ∧ Hid (n' = l.length) ∧ Hid (OwnB w' (N7 + 2) (.slice a' n' c') l) ∧ Hid (Below W2.heap.size W2 w')) := by
    have hu2 : Below W2.heap.size W2 (W2.alloc (.cells #[.int .i64 0, .slice none 0 0] 27)).drew := up_dr (up_alloc _ _)
    have hb1 : (W2.alloc (.cells #[.int .i64 0, .slice none 0 0] 27)).drew.heap[W2.heap.size]? = some (.cells #[.int .i64 0, .slice none 0 0] 27) := blk_up (blk_new _ _) (up_dr (Below.refl _ _))
    have hs : (W2.alloc (.cells #[.int .i64 0, .slice none 0 0] 27)).drew.heap.size = N7 + 2 := by simp [S2.out]
    refine (copy_any l _ _ (F2.out.oct.up hu2) (by have := HL.out.2.2; omega)).mono ?_
    rintro e w' ⟨v', rfl, ho, hbw⟩
    obtain ⟨a', n', c', rfl, hn'⟩ := own_shape ho
    have d1 := blk_up F2.out.blk (up_trans hu2 hbw)
    have d2 := blk_up hb1 hbw
    refine ⟨a', n', c', rfl, blk_cell d1 0 _ rfl, blk_cell d1 1 _ rfl, blk_cell d2 0 _ rfl, blk_cell d2 1 _ rfl, blk_frozen d2 0, blk_frozen d2 1, d2, hn', ?_, up_trans hu2 hbw⟩
    unfold Hid
    rw [hs] at ho
    exact ho
  have hN7 : N7 ≠ W2.heap.size := by have := blk_lt F2.out.blk; omega
  have qA : ∀ o, (W2.alloc o).cell? ⟨N7, 0, none⟩ = some (.int .i64 K) := fun o => World.cell?_alloc_of q0 o
  have qB : ∀ o, (W2.alloc o).cell? ⟨N7, 1, none⟩ = some (.slice fa n fc) := fun o => World.cell?_alloc_of q1 o
  go_wp2_with fail
  go_region_held3 (fun w' => w'.cell? ⟨N7, 0, none⟩ = some (.int .i64 K) ∧ w'.cell? ⟨N7, 1, none⟩ = some (.slice fa n fc)) (first | with_reducible exact ⟨y0, y1⟩ | exact ⟨qA _, qB _⟩ | exact ⟨World.cell?_alloc_of y0 _, World.cell?_alloc_of y1 _⟩ | exact ⟨cell_two hN7 y0 _ _, cell_two hN7 y1 _ _⟩ | exact ⟨q0, q1⟩) (first
    | (go_at_call 21; with_reducible refine HC.out.mono ?_; rintro e w' ⟨ga, gn, gc, rfl, y0, y1, hgn, hgo, hb⟩)
    | (go_at_call 21; with_reducible refine HC2.out.mono ?_; rintro e w' ⟨ga, gn, gc, rfl, y0, y1, y2, y3, y4, y5, hb9, hgn, hgo, hb⟩))
  · have HW : Hid (OwnB (w'.alloc (.cells #[.int .i64 K, .slice ga gn gc] 27)) (N7 + 1) (.slice ga gn gc) l ∧ FilW (w'.alloc (.cells #[.int .i64 K, .slice ga gn gc] 27)) N7 27 K fa n fc l ∧ (w'.alloc (.cells #[.int .i64 K, .slice ga gn gc] 27)).heap[w'.heap.size]? = some (.cells #[.int .i64 K, .slice ga gn gc] 27) ∧ Below w.heap.size w (w'.alloc (.cells #[.int .i64 K, .slice ga gn gc] 27)) ∧ N7 < N7 + 1 ∧ (∀ b, (Value.slice fa n fc).ownBlock = some b → b < N7 + 1) ∧ w.heap.size ≤ N7 + 1) :=
      ⟨own_up hgo.out (up_alloc _ _), (F2.out.up hb.out).up (up_alloc _ _), blk_new _ _, up_al (up_trans B2.out hb.out) _, by omega, fun b h => by have := X2.out b h; omega, by have := B2.out.size; have := S2.out; omega⟩
    clear y0 y1 hgo hb HC HC2 q0 q1 qA qB F2 B2 X2 S2 hN7
    generalize w'.alloc (.cells #[.int .i64 K, .slice ga gn gc] 27) = W5 at *
    generalize w'.heap.size = N9 at *
    generalize hbase : N7 + 1 = base at HW
    clear hbase
    obtain ⟨g, rfl⟩ := own_some HW.out.1 HL.out.2.1
    obtain rfl : gn = n := by rw [hgn.out, hn.out]
    have HW0 : Hid (KnW w N7 N9 K fa gn fc g gc base l l W5) := ⟨HW.out.2.1, HW.out.2.2.1, HW.out.1, HL.out.1, hn.out.symm, HW.out.2.2.2.1, HW.out.2.2.2.2.1, HW.out.2.2.2.2.2.1, HW.out.2.2.2.2.2.2⟩
    clear HW hgn
    go_wp2_with fail
    go_loopw [10] (fun i wr => ∃ (k : Nat) (cur : List Int), k ≤ bts.length ∧ i = .int .i64 k ∧ Hid (KnW w N7 N9 K fa gn fc g gc base l cur wr) ∧ Hid (Cov l cur)) (fun i _ => bts.length - (intOf i).toNat)
    case atStart => exact ⟨0, l, Nat.zero_le _, rfl, HW0, Cov.refl l⟩
    case round =>
      clear HW0
      obtain ⟨k, cur, hk, rfl, HW, HCV⟩ := hrel
      have q9 := blk_cell HW.out.b9 1 _ rfl
      by_cases hlt : k < bts.length
      · have hlt' : (k : Int) < (bts.length : Int) := by omega
        by_cases hkn : k < gn
        · have hkn' : (k : Int) < (gn : Int) := by omega
          have ho := HW.out.own
          unfold OwnB at ho
          rw [HW.out.len] at ho
          have hc0 := ho.cellAt k (by omega)
          have hf0 := ho.frozenAt k
          have hlo : k < cur.length := by rw [HW.out.len]; exact hkn
          obtain ⟨x0, x1⟩ := getD_oct HW.out.oct k
          have hc1 : wr.cell? ⟨g, k, none⟩ = some (.int .u8 (cur.getD k 0)) := by
            rw [hc0, List.getElem?_map]
            simp [List.getD, hlo]
          have hV2 : Octs wr (.slice ua bts.length uc) bts := HV.out.up HW.out.below
          obtain ⟨b, off, cap, e, _, _, hcb⟩ := hV2.at k hlt
          obtain ⟨y0, y1⟩ := hV2.oct k hlt
          simp at e
          obtain ⟨rfl, rfl⟩ := e
          have HCS := HCV.out.set k (bts.getD k 0).toNat
          have hor : 0 ≤ ((((cur.getD k 0).toNat ||| (bts.getD k 0).toNat : Nat)) : Int) ∧ ((((cur.getD k 0).toNat ||| (bts.getD k 0).toNat : Nat)) : Int) ≤ 255 := by
            have := Nat.or_lt_two_pow (n := 8) (show (cur.getD k 0).toNat < 2 ^ 8 by omega) (show (bts.getD k 0).toNat < 2 ^ 8 by omega)
            omega
          have HO := HW.out.set k _ hor
          generalize cur.getD k 0 = x at *
          generalize bts.getD k 0 = y at *
          have ea : bits .or .u8 x y = ((x.toNat ||| y.toNat : Nat) : Int) := u8_or x y x0 (by omega) y0 (by omega)
          generalize x.toNat ||| y.toNat = z at *
          have HOO : Hid (KnW w N7 N9 K fa gn fc g gc base l (cur.set k z) (wr.setCell ⟨g, k, none⟩ (.int .u8 z))) := HO
          have HCC : Hid (Cov l (cur.set k z)) := HCS
          clear HO HCS ho hc0 hV2 hor
          go_wp2_with fail
          go_region
          all_goals go_wp2
          exact ⟨⟨k + 1, cur.set k z, by omega, by go_num, HOO.out.up (up_dr (Below.refl _ _)), HCC⟩, by simp [intOf]; omega⟩
        · have hkn' : ¬ (k : Int) < (gn : Int) := by omega
          go_wp2_with fail
          go_loopw [11] (fun i wx => ∃ k : Nat, k ≤ m ∧ i = .int .i64 k ∧ Hid (FilW wx N7 27 K fa gn fc l) ∧ Hid (FilW wx N9 27 K (some ⟨g, 0, none⟩) gn gc cur) ∧ Hid (Below w.heap.size w wx)) (fun i _ => m - (intOf i).toNat)
          case atStart => exact ⟨0, Nat.zero_le _, rfl, HW.out.f7, ⟨HW.out.b9, Octs.own HW.out.own HW.out.oct⟩, HW.out.below⟩
          case round =>
            clear HW
            obtain ⟨k, hk, rfl, E7, E9, EB⟩ := hrel
            by_cases hkm : k < m
            · have hkm' : (k : Int) < (m : Int) := by omega
              obtain ⟨b, off, rfl, hcell⟩ := HKEY.out k _ hkm EB.out
              have HHK : Hid (∀ (a : Option Addr) (n c : Nat) (W : World) (cur : List Int), n = l.length → Cov l cur → Octs W (.slice a n c) cur → Calls Try.prog 13 #[.agg #[.int .i64 K, .slice a n c], .string (strOfNums ((keys.take m).getD k []))] W fun e w' => e = .returned (.tuple #[.bool true, .int .i64 0]) ∧ Below W.heap.size W w') := fun a n c W cur => HHAS.out k a n c W cur hkm
              generalize (keys.take m).getD k [] = key at hcell HHK
              have HH7 : Hid (Calls Try.prog 13 #[.agg #[.int .i64 K, .slice fa gn fc], .string (strOfNums key)] wr.drew fun e w' => ∃ bb, e = .returned (.tuple #[.bool bb, .int .i64 0]) ∧ Hid (bb = true) ∧ (w'.cell? ⟨N7, 0, none⟩ = some (.int .i64 K) ∧ w'.cell? ⟨N7, 1, none⟩ = some (.slice fa gn fc) ∧ w'.cell? ⟨b, off + k, none⟩ = some (.string (strOfNums key))) ∧ Hid (FilW w' N7 27 K fa gn fc l) ∧ Hid (FilW w' N9 27 K (some ⟨g, 0, none⟩) gn gc cur) ∧ Hid (Below w.heap.size w w')) := by
                have hd : Below wr.heap.size wr wr.drew := up_dr (Below.refl _ _)
                refine (HHK.out fa gn fc wr.drew l hn.out (Cov.refl l) (E7.out.oct.up hd)).mono ?_
                rintro e w' ⟨rfl, hb⟩
                have e7 := (E7.out.up hd).up hb
                refine ⟨true, rfl, rfl, ⟨blk_cell e7.blk 0 _ rfl, blk_cell e7.blk 1 _ rfl, ?_⟩, e7, (E9.out.up hd).up hb, up_trans (up_trans EB.out hd) hb⟩
                rw [(up_trans hd hb).cell (World.block_lt_of_cell? wr _ hcell)]
                exact hcell
              have q0 := blk_cell E7.out.blk 0 _ rfl
              have q1 := blk_cell E7.out.blk 1 _ rfl
              go_wp2_with fail
              go_region_held3 (fun w' => w'.cell? ⟨N7, 0, none⟩ = some (.int .i64 K) ∧ w'.cell? ⟨N7, 1, none⟩ = some (.slice fa gn fc) ∧ w'.cell? ⟨b, off + k, none⟩ = some (.string (strOfNums key))) (first | with_reducible exact y | exact ⟨q0, q1, hcell⟩) (first
                | (go_at_call 13; with_reducible refine HH7.out.mono ?_; rintro e w6 ⟨t12, rfl, h12, y, E7', E9', EB'⟩))
              obtain ⟨_, _, hcell6⟩ := y
              clear q0 q1 hcell HH7 E7 E9 EB
              have HH9 : Hid (Calls Try.prog 13 #[.agg #[.int .i64 K, .slice (some ⟨g, 0, none⟩) gn gc], .string (strOfNums key)] w6.drew fun e w' => ∃ bb, e = .returned (.tuple #[.bool bb, .int .i64 0]) ∧ Hid (bb = true) ∧ (w'.cell? ⟨N9, 0, none⟩ = some (.int .i64 K) ∧ w'.cell? ⟨N9, 1, none⟩ = some (.slice (some ⟨g, 0, none⟩) gn gc) ∧ w'.cell? ⟨b, off + k, none⟩ = some (.string (strOfNums key))) ∧ Hid (FilW w' N7 27 K fa gn fc l) ∧ Hid (FilW w' N9 27 K (some ⟨g, 0, none⟩) gn gc cur) ∧ Hid (Below w.heap.size w w')) := by
                have hd : Below w6.heap.size w6 w6.drew := up_dr (Below.refl _ _)
                refine (HHK.out (some ⟨g, 0, none⟩) gn gc w6.drew cur hn.out HCV.out (E9'.out.oct.up hd)).mono ?_
                rintro e w' ⟨rfl, hb⟩
                have e9 := (E9'.out.up hd).up hb
                refine ⟨true, rfl, rfl, ⟨blk_cell e9.blk 0 _ rfl, blk_cell e9.blk 1 _ rfl, ?_⟩, (E7'.out.up hd).up hb, e9, up_trans (up_trans EB'.out hd) hb⟩
                rw [(up_trans hd hb).cell (World.block_lt_of_cell? w6 _ hcell6)]
                exact hcell6
              have q0 := blk_cell E9'.out.blk 0 _ rfl
              have q1 := blk_cell E9'.out.blk 1 _ rfl
              go_wp2_with fail
              go_region_held3 (fun w' => w'.cell? ⟨N9, 0, none⟩ = some (.int .i64 K) ∧ w'.cell? ⟨N9, 1, none⟩ = some (.slice (some ⟨g, 0, none⟩) gn gc) ∧ w'.cell? ⟨b, off + k, none⟩ = some (.string (strOfNums key))) (first | with_reducible exact y | exact ⟨q0, q1, hcell6⟩) (first
                | (go_at_call 13; with_reducible refine HH9.out.mono ?_; rintro e w7 ⟨t14, rfl, h14, y, E7, E9, EB⟩))
              clear y q0 q1 hcell6 HH9 E7' E9' EB'
              obtain rfl : t12 = true := h12.out
              obtain rfl : t14 = true := h14.out
              go_wp2_with fail
              refine (HN.out _ _).mono ?_
              rintro e w8 ⟨rfl, rfl⟩
              go_wp2_with fail
              refine (HN.out _ _).mono ?_
              rintro e w8 ⟨rfl, rfl⟩
              go_wp2
              exact ⟨⟨k + 1, by omega, by go_num, E7, E9, EB⟩, by simp [intOf]; omega⟩
            · have hkm' : ¬ (k : Int) < (m : Int) := by omega
              go_wp2
              go_ret
              exact ⟨rfl, EB.out⟩
      · have hlt' : ¬ (k : Int) < (bts.length : Int) := by omega
        go_wp2_with fail
        go_loopw [11] (fun i wx => ∃ k : Nat, k ≤ m ∧ i = .int .i64 k ∧ Hid (FilW wx N7 27 K fa gn fc l) ∧ Hid (FilW wx N9 27 K (some ⟨g, 0, none⟩) gn gc cur) ∧ Hid (Below w.heap.size w wx)) (fun i _ => m - (intOf i).toNat)
        case atStart => exact ⟨0, Nat.zero_le _, rfl, HW.out.f7, ⟨HW.out.b9, Octs.own HW.out.own HW.out.oct⟩, HW.out.below⟩
        case round =>
          clear HW
          obtain ⟨k, hk, rfl, E7, E9, EB⟩ := hrel
          by_cases hkm : k < m
          · have hkm' : (k : Int) < (m : Int) := by omega
            obtain ⟨b, off, rfl, hcell⟩ := HKEY.out k _ hkm EB.out
            have HHK : Hid (∀ (a : Option Addr) (n c : Nat) (W : World) (cur : List Int), n = l.length → Cov l cur → Octs W (.slice a n c) cur → Calls Try.prog 13 #[.agg #[.int .i64 K, .slice a n c], .string (strOfNums ((keys.take m).getD k []))] W fun e w' => e = .returned (.tuple #[.bool true, .int .i64 0]) ∧ Below W.heap.size W w') := fun a n c W cur => HHAS.out k a n c W cur hkm
            generalize (keys.take m).getD k [] = key at hcell HHK
            have HH7 : Hid (Calls Try.prog 13 #[.agg #[.int .i64 K, .slice fa gn fc], .string (strOfNums key)] wr.drew fun e w' => ∃ bb, e = .returned (.tuple #[.bool bb, .int .i64 0]) ∧ Hid (bb = true) ∧ (w'.cell? ⟨N7, 0, none⟩ = some (.int .i64 K) ∧ w'.cell? ⟨N7, 1, none⟩ = some (.slice fa gn fc) ∧ w'.cell? ⟨b, off + k, none⟩ = some (.string (strOfNums key))) ∧ Hid (FilW w' N7 27 K fa gn fc l) ∧ Hid (FilW w' N9 27 K (some ⟨g, 0, none⟩) gn gc cur) ∧ Hid (Below w.heap.size w w')) := by
              have hd : Below wr.heap.size wr wr.drew := up_dr (Below.refl _ _)
              refine (HHK.out fa gn fc wr.drew l hn.out (Cov.refl l) (E7.out.oct.up hd)).mono ?_
              rintro e w' ⟨rfl, hb⟩
              have e7 := (E7.out.up hd).up hb
              refine ⟨true, rfl, rfl, ⟨blk_cell e7.blk 0 _ rfl, blk_cell e7.blk 1 _ rfl, ?_⟩, e7, (E9.out.up hd).up hb, up_trans (up_trans EB.out hd) hb⟩
              rw [(up_trans hd hb).cell (World.block_lt_of_cell? wr _ hcell)]
              exact hcell
            have q0 := blk_cell E7.out.blk 0 _ rfl
            have q1 := blk_cell E7.out.blk 1 _ rfl
            go_wp2_with fail
            go_region_held3 (fun w' => w'.cell? ⟨N7, 0, none⟩ = some (.int .i64 K) ∧ w'.cell? ⟨N7, 1, none⟩ = some (.slice fa gn fc) ∧ w'.cell? ⟨b, off + k, none⟩ = some (.string (strOfNums key))) (first | with_reducible exact y | exact ⟨q0, q1, hcell⟩) (first
              | (go_at_call 13; with_reducible refine HH7.out.mono ?_; rintro e w6 ⟨t12, rfl, h12, y, E7', E9', EB'⟩))
            obtain ⟨_, _, hcell6⟩ := y
            clear q0 q1 hcell HH7 E7 E9 EB
            have HH9 : Hid (Calls Try.prog 13 #[.agg #[.int .i64 K, .slice (some ⟨g, 0, none⟩) gn gc], .string (strOfNums key)] w6.drew fun e w' => ∃ bb, e = .returned (.tuple #[.bool bb, .int .i64 0]) ∧ Hid (bb = true) ∧ (w'.cell? ⟨N9, 0, none⟩ = some (.int .i64 K) ∧ w'.cell? ⟨N9, 1, none⟩ = some (.slice (some ⟨g, 0, none⟩) gn gc) ∧ w'.cell? ⟨b, off + k, none⟩ = some (.string (strOfNums key))) ∧ Hid (FilW w' N7 27 K fa gn fc l) ∧ Hid (FilW w' N9 27 K (some ⟨g, 0, none⟩) gn gc cur) ∧ Hid (Below w.heap.size w w')) := by
              have hd : Below w6.heap.size w6 w6.drew := up_dr (Below.refl _ _)
              refine (HHK.out (some ⟨g, 0, none⟩) gn gc w6.drew cur hn.out HCV.out (E9'.out.oct.up hd)).mono ?_
              rintro e w' ⟨rfl, hb⟩
              have e9 := (E9'.out.up hd).up hb
              refine ⟨true, rfl, rfl, ⟨blk_cell e9.blk 0 _ rfl, blk_cell e9.blk 1 _ rfl, ?_⟩, (E7'.out.up hd).up hb, e9, up_trans (up_trans EB'.out hd) hb⟩
              rw [(up_trans hd hb).cell (World.block_lt_of_cell? w6 _ hcell6)]
              exact hcell6
            have q0 := blk_cell E9'.out.blk 0 _ rfl
            have q1 := blk_cell E9'.out.blk 1 _ rfl
            go_wp2_with fail
            go_region_held3 (fun w' => w'.cell? ⟨N9, 0, none⟩ = some (.int .i64 K) ∧ w'.cell? ⟨N9, 1, none⟩ = some (.slice (some ⟨g, 0, none⟩) gn gc) ∧ w'.cell? ⟨b, off + k, none⟩ = some (.string (strOfNums key))) (first | with_reducible exact y | exact ⟨q0, q1, hcell6⟩) (first
              | (go_at_call 13; with_reducible refine HH9.out.mono ?_; rintro e w7 ⟨t14, rfl, h14, y, E7, E9, EB⟩))
            clear y q0 q1 hcell6 HH9 E7' E9' EB'
            obtain rfl : t12 = true := h12.out
            obtain rfl : t14 = true := h14.out
            go_wp2_with fail
            refine (HN.out _ _).mono ?_
            rintro e w8 ⟨rfl, rfl⟩
            go_wp2_with fail
            refine (HN.out _ _).mono ?_
            rintro e w8 ⟨rfl, rfl⟩
            go_wp2
            exact ⟨⟨k + 1, by omega, by go_num, E7, E9, EB⟩, by simp [intOf]; omega⟩
          · have hkm' : ¬ (k : Int) < (m : Int) := by omega
            go_wp2
            go_ret
            exact ⟨rfl, EB.out⟩
  · have HW : Hid (OwnB (set2 w' W2.heap.size (.int .i64 K) (.slice ga gn gc)) (N7 + 2) (.slice ga gn gc) l ∧ FilW (set2 w' W2.heap.size (.int .i64 K) (.slice ga gn gc)) N7 27 K fa n fc l ∧ (set2 w' W2.heap.size (.int .i64 K) (.slice ga gn gc)).heap[W2.heap.size]? = some (.cells #[.int .i64 K, .slice ga gn gc] 27) ∧ Below w.heap.size w (set2 w' W2.heap.size (.int .i64 K) (.slice ga gn gc)) ∧ N7 < N7 + 2 ∧ (∀ b, (Value.slice fa n fc).ownBlock = some b → b < N7 + 2) ∧ w.heap.size ≤ N7 + 2) := by
      have gg := set2_grown w' W2.heap.size (.int .i64 K) (.slice ga gn gc)
      have hs := S2.out
      have u5 := up_trans B2.out hb.out
      refine ⟨hgo.out.kept gg (.inr fun e => ?_), (F2.out.up hb.out).far gg (fun e => ?_) (fun b h _ e => ?_), set2_blk hb9.out _ _, u5.grown gg u5.size (fun j hj => ?_), by omega, fun b h => by have := X2.out b h; omega, by have := B2.out.size; omega⟩
      · have := (hgo.out.lt _ e).1; omega
      · simp at e; omega
      · have := X2.out b h; simp at e; omega
      · have := B2.out.size; simp at hj; omega
    clear y0 y1 y2 y3 y4 y5 hgo hb hb9 HC HC2 q0 q1 qA qB F2 B2 X2 S2 hN7
    change Exit.then _ _ Exit.normal _ (set2 w' W2.heap.size (.int .i64 K) (.slice ga gn gc))
    generalize set2 w' W2.heap.size (.int .i64 K) (.slice ga gn gc) = W5 at *
    generalize W2.heap.size = N9 at *
    generalize hbase : N7 + 2 = base at HW
    clear hbase
    obtain ⟨g, rfl⟩ := own_some HW.out.1 HL.out.2.1
    obtain rfl : gn = n := by rw [hgn.out, hn.out]
    have HW0 : Hid (KnW w N7 N9 K fa gn fc g gc base l l W5) := ⟨HW.out.2.1, HW.out.2.2.1, HW.out.1, HL.out.1, hn.out.symm, HW.out.2.2.2.1, HW.out.2.2.2.2.1, HW.out.2.2.2.2.2.1, HW.out.2.2.2.2.2.2⟩
    clear HW hgn
    go_wp2_with fail
    go_loopw [10] (fun i wr => ∃ (k : Nat) (cur : List Int), k ≤ bts.length ∧ i = .int .i64 k ∧ Hid (KnW w N7 N9 K fa gn fc g gc base l cur wr) ∧ Hid (Cov l cur)) (fun i _ => bts.length - (intOf i).toNat)
    case atStart => exact ⟨0, l, Nat.zero_le _, rfl, HW0, Cov.refl l⟩
    case round =>
      clear HW0
      obtain ⟨k, cur, hk, rfl, HW, HCV⟩ := hrel
      have q9 := blk_cell HW.out.b9 1 _ rfl
      by_cases hlt : k < bts.length
      · have hlt' : (k : Int) < (bts.length : Int) := by omega
        by_cases hkn : k < gn
        · have hkn' : (k : Int) < (gn : Int) := by omega
          have ho := HW.out.own
          unfold OwnB at ho
          rw [HW.out.len] at ho
          have hc0 := ho.cellAt k (by omega)
          have hf0 := ho.frozenAt k
          have hlo : k < cur.length := by rw [HW.out.len]; exact hkn
          obtain ⟨x0, x1⟩ := getD_oct HW.out.oct k
          have hc1 : wr.cell? ⟨g, k, none⟩ = some (.int .u8 (cur.getD k 0)) := by
            rw [hc0, List.getElem?_map]
            simp [List.getD, hlo]
          have hV2 : Octs wr (.slice ua bts.length uc) bts := HV.out.up HW.out.below
          obtain ⟨b, off, cap, e, _, _, hcb⟩ := hV2.at k hlt
          obtain ⟨y0, y1⟩ := hV2.oct k hlt
          simp at e
          obtain ⟨rfl, rfl⟩ := e
          have HCS := HCV.out.set k (bts.getD k 0).toNat
          have hor : 0 ≤ ((((cur.getD k 0).toNat ||| (bts.getD k 0).toNat : Nat)) : Int) ∧ ((((cur.getD k 0).toNat ||| (bts.getD k 0).toNat : Nat)) : Int) ≤ 255 := by
            have := Nat.or_lt_two_pow (n := 8) (show (cur.getD k 0).toNat < 2 ^ 8 by omega) (show (bts.getD k 0).toNat < 2 ^ 8 by omega)
            omega
          have HO := HW.out.set k _ hor
          generalize cur.getD k 0 = x at *
          generalize bts.getD k 0 = y at *
          have ea : bits .or .u8 x y = ((x.toNat ||| y.toNat : Nat) : Int) := u8_or x y x0 (by omega) y0 (by omega)
          generalize x.toNat ||| y.toNat = z at *
          have HOO : Hid (KnW w N7 N9 K fa gn fc g gc base l (cur.set k z) (wr.setCell ⟨g, k, none⟩ (.int .u8 z))) := HO
          have HCC : Hid (Cov l (cur.set k z)) := HCS
          clear HO HCS ho hc0 hV2 hor
          go_wp2_with fail
          go_region
          all_goals go_wp2
          exact ⟨⟨k + 1, cur.set k z, by omega, by go_num, HOO.out.up (up_dr (Below.refl _ _)), HCC⟩, by simp [intOf]; omega⟩
        · have hkn' : ¬ (k : Int) < (gn : Int) := by omega
          go_wp2_with fail
          go_loopw [11] (fun i wx => ∃ k : Nat, k ≤ m ∧ i = .int .i64 k ∧ Hid (FilW wx N7 27 K fa gn fc l) ∧ Hid (FilW wx N9 27 K (some ⟨g, 0, none⟩) gn gc cur) ∧ Hid (Below w.heap.size w wx)) (fun i _ => m - (intOf i).toNat)
          case atStart => exact ⟨0, Nat.zero_le _, rfl, HW.out.f7, ⟨HW.out.b9, Octs.own HW.out.own HW.out.oct⟩, HW.out.below⟩
          case round =>
            clear HW
            obtain ⟨k, hk, rfl, E7, E9, EB⟩ := hrel
            by_cases hkm : k < m
            · have hkm' : (k : Int) < (m : Int) := by omega
              obtain ⟨b, off, rfl, hcell⟩ := HKEY.out k _ hkm EB.out
              have HHK : Hid (∀ (a : Option Addr) (n c : Nat) (W : World) (cur : List Int), n = l.length → Cov l cur → Octs W (.slice a n c) cur → Calls Try.prog 13 #[.agg #[.int .i64 K, .slice a n c], .string (strOfNums ((keys.take m).getD k []))] W fun e w' => e = .returned (.tuple #[.bool true, .int .i64 0]) ∧ Below W.heap.size W w') := fun a n c W cur => HHAS.out k a n c W cur hkm
              generalize (keys.take m).getD k [] = key at hcell HHK
              have HH7 : Hid (Calls Try.prog 13 #[.agg #[.int .i64 K, .slice fa gn fc], .string (strOfNums key)] wr.drew fun e w' => ∃ bb, e = .returned (.tuple #[.bool bb, .int .i64 0]) ∧ Hid (bb = true) ∧ (w'.cell? ⟨N7, 0, none⟩ = some (.int .i64 K) ∧ w'.cell? ⟨N7, 1, none⟩ = some (.slice fa gn fc) ∧ w'.cell? ⟨b, off + k, none⟩ = some (.string (strOfNums key))) ∧ Hid (FilW w' N7 27 K fa gn fc l) ∧ Hid (FilW w' N9 27 K (some ⟨g, 0, none⟩) gn gc cur) ∧ Hid (Below w.heap.size w w')) := by
                have hd : Below wr.heap.size wr wr.drew := up_dr (Below.refl _ _)
                refine (HHK.out fa gn fc wr.drew l hn.out (Cov.refl l) (E7.out.oct.up hd)).mono ?_
                rintro e w' ⟨rfl, hb⟩
                have e7 := (E7.out.up hd).up hb
                refine ⟨true, rfl, rfl, ⟨blk_cell e7.blk 0 _ rfl, blk_cell e7.blk 1 _ rfl, ?_⟩, e7, (E9.out.up hd).up hb, up_trans (up_trans EB.out hd) hb⟩
                rw [(up_trans hd hb).cell (World.block_lt_of_cell? wr _ hcell)]
                exact hcell
              have q0 := blk_cell E7.out.blk 0 _ rfl
              have q1 := blk_cell E7.out.blk 1 _ rfl
              go_wp2_with fail
              go_region_held3 (fun w' => w'.cell? ⟨N7, 0, none⟩ = some (.int .i64 K) ∧ w'.cell? ⟨N7, 1, none⟩ = some (.slice fa gn fc) ∧ w'.cell? ⟨b, off + k, none⟩ = some (.string (strOfNums key))) (first | with_reducible exact y | exact ⟨q0, q1, hcell⟩) (first
                | (go_at_call 13; with_reducible refine HH7.out.mono ?_; rintro e w6 ⟨t12, rfl, h12, y, E7', E9', EB'⟩))
              obtain ⟨_, _, hcell6⟩ := y
              clear q0 q1 hcell HH7 E7 E9 EB
              have HH9 : Hid (Calls Try.prog 13 #[.agg #[.int .i64 K, .slice (some ⟨g, 0, none⟩) gn gc], .string (strOfNums key)] w6.drew fun e w' => ∃ bb, e = .returned (.tuple #[.bool bb, .int .i64 0]) ∧ Hid (bb = true) ∧ (w'.cell? ⟨N9, 0, none⟩ = some (.int .i64 K) ∧ w'.cell? ⟨N9, 1, none⟩ = some (.slice (some ⟨g, 0, none⟩) gn gc) ∧ w'.cell? ⟨b, off + k, none⟩ = some (.string (strOfNums key))) ∧ Hid (FilW w' N7 27 K fa gn fc l) ∧ Hid (FilW w' N9 27 K (some ⟨g, 0, none⟩) gn gc cur) ∧ Hid (Below w.heap.size w w')) := by
                have hd : Below w6.heap.size w6 w6.drew := up_dr (Below.refl _ _)
                refine (HHK.out (some ⟨g, 0, none⟩) gn gc w6.drew cur hn.out HCV.out (E9'.out.oct.up hd)).mono ?_
                rintro e w' ⟨rfl, hb⟩
                have e9 := (E9'.out.up hd).up hb
                refine ⟨true, rfl, rfl, ⟨blk_cell e9.blk 0 _ rfl, blk_cell e9.blk 1 _ rfl, ?_⟩, (E7'.out.up hd).up hb, e9, up_trans (up_trans EB'.out hd) hb⟩
                rw [(up_trans hd hb).cell (World.block_lt_of_cell? w6 _ hcell6)]
                exact hcell6
              have q0 := blk_cell E9'.out.blk 0 _ rfl
              have q1 := blk_cell E9'.out.blk 1 _ rfl
              go_wp2_with fail
              go_region_held3 (fun w' => w'.cell? ⟨N9, 0, none⟩ = some (.int .i64 K) ∧ w'.cell? ⟨N9, 1, none⟩ = some (.slice (some ⟨g, 0, none⟩) gn gc) ∧ w'.cell? ⟨b, off + k, none⟩ = some (.string (strOfNums key))) (first | with_reducible exact y | exact ⟨q0, q1, hcell6⟩) (first
                | (go_at_call 13; with_reducible refine HH9.out.mono ?_; rintro e w7 ⟨t14, rfl, h14, y, E7, E9, EB⟩))
              clear y q0 q1 hcell6 HH9 E7' E9' EB'
              obtain rfl : t12 = true := h12.out
              obtain rfl : t14 = true := h14.out
              go_wp2_with fail
              refine (HN.out _ _).mono ?_
              rintro e w8 ⟨rfl, rfl⟩
              go_wp2_with fail
              refine (HN.out _ _).mono ?_
              rintro e w8 ⟨rfl, rfl⟩
              go_wp2
              exact ⟨⟨k + 1, by omega, by go_num, E7, E9, EB⟩, by simp [intOf]; omega⟩
            · have hkm' : ¬ (k : Int) < (m : Int) := by omega
              go_wp2
              go_ret
              exact ⟨rfl, EB.out⟩
      · have hlt' : ¬ (k : Int) < (bts.length : Int) := by omega
        go_wp2_with fail
        go_loopw [11] (fun i wx => ∃ k : Nat, k ≤ m ∧ i = .int .i64 k ∧ Hid (FilW wx N7 27 K fa gn fc l) ∧ Hid (FilW wx N9 27 K (some ⟨g, 0, none⟩) gn gc cur) ∧ Hid (Below w.heap.size w wx)) (fun i _ => m - (intOf i).toNat)
        case atStart => exact ⟨0, Nat.zero_le _, rfl, HW.out.f7, ⟨HW.out.b9, Octs.own HW.out.own HW.out.oct⟩, HW.out.below⟩
        case round =>
          clear HW
          obtain ⟨k, hk, rfl, E7, E9, EB⟩ := hrel
          by_cases hkm : k < m
          · have hkm' : (k : Int) < (m : Int) := by omega
            obtain ⟨b, off, rfl, hcell⟩ := HKEY.out k _ hkm EB.out
            have HHK : Hid (∀ (a : Option Addr) (n c : Nat) (W : World) (cur : List Int), n = l.length → Cov l cur → Octs W (.slice a n c) cur → Calls Try.prog 13 #[.agg #[.int .i64 K, .slice a n c], .string (strOfNums ((keys.take m).getD k []))] W fun e w' => e = .returned (.tuple #[.bool true, .int .i64 0]) ∧ Below W.heap.size W w') := fun a n c W cur => HHAS.out k a n c W cur hkm
            generalize (keys.take m).getD k [] = key at hcell HHK
            have HH7 : Hid (Calls Try.prog 13 #[.agg #[.int .i64 K, .slice fa gn fc], .string (strOfNums key)] wr.drew fun e w' => ∃ bb, e = .returned (.tuple #[.bool bb, .int .i64 0]) ∧ Hid (bb = true) ∧ (w'.cell? ⟨N7, 0, none⟩ = some (.int .i64 K) ∧ w'.cell? ⟨N7, 1, none⟩ = some (.slice fa gn fc) ∧ w'.cell? ⟨b, off + k, none⟩ = some (.string (strOfNums key))) ∧ Hid (FilW w' N7 27 K fa gn fc l) ∧ Hid (FilW w' N9 27 K (some ⟨g, 0, none⟩) gn gc cur) ∧ Hid (Below w.heap.size w w')) := by
              have hd : Below wr.heap.size wr wr.drew := up_dr (Below.refl _ _)
              refine (HHK.out fa gn fc wr.drew l hn.out (Cov.refl l) (E7.out.oct.up hd)).mono ?_
              rintro e w' ⟨rfl, hb⟩
              have e7 := (E7.out.up hd).up hb
              refine ⟨true, rfl, rfl, ⟨blk_cell e7.blk 0 _ rfl, blk_cell e7.blk 1 _ rfl, ?_⟩, e7, (E9.out.up hd).up hb, up_trans (up_trans EB.out hd) hb⟩
              rw [(up_trans hd hb).cell (World.block_lt_of_cell? wr _ hcell)]
              exact hcell
            have q0 := blk_cell E7.out.blk 0 _ rfl
            have q1 := blk_cell E7.out.blk 1 _ rfl
            go_wp2_with fail
            go_region_held3 (fun w' => w'.cell? ⟨N7, 0, none⟩ = some (.int .i64 K) ∧ w'.cell? ⟨N7, 1, none⟩ = some (.slice fa gn fc) ∧ w'.cell? ⟨b, off + k, none⟩ = some (.string (strOfNums key))) (first | with_reducible exact y | exact ⟨q0, q1, hcell⟩) (first
              | (go_at_call 13; with_reducible refine HH7.out.mono ?_; rintro e w6 ⟨t12, rfl, h12, y, E7', E9', EB'⟩))
            obtain ⟨_, _, hcell6⟩ := y
            clear q0 q1 hcell HH7 E7 E9 EB
            have HH9 : Hid (Calls Try.prog 13 #[.agg #[.int .i64 K, .slice (some ⟨g, 0, none⟩) gn gc], .string (strOfNums key)] w6.drew fun e w' => ∃ bb, e = .returned (.tuple #[.bool bb, .int .i64 0]) ∧ Hid (bb = true) ∧ (w'.cell? ⟨N9, 0, none⟩ = some (.int .i64 K) ∧ w'.cell? ⟨N9, 1, none⟩ = some (.slice (some ⟨g, 0, none⟩) gn gc) ∧ w'.cell? ⟨b, off + k, none⟩ = some (.string (strOfNums key))) ∧ Hid (FilW w' N7 27 K fa gn fc l) ∧ Hid (FilW w' N9 27 K (some ⟨g, 0, none⟩) gn gc cur) ∧ Hid (Below w.heap.size w w')) := by
              have hd : Below w6.heap.size w6 w6.drew := up_dr (Below.refl _ _)
              refine (HHK.out (some ⟨g, 0, none⟩) gn gc w6.drew cur hn.out HCV.out (E9'.out.oct.up hd)).mono ?_
              rintro e w' ⟨rfl, hb⟩
              have e9 := (E9'.out.up hd).up hb
              refine ⟨true, rfl, rfl, ⟨blk_cell e9.blk 0 _ rfl, blk_cell e9.blk 1 _ rfl, ?_⟩, (E7'.out.up hd).up hb, e9, up_trans (up_trans EB'.out hd) hb⟩
              rw [(up_trans hd hb).cell (World.block_lt_of_cell? w6 _ hcell6)]
              exact hcell6
            have q0 := blk_cell E9'.out.blk 0 _ rfl
            have q1 := blk_cell E9'.out.blk 1 _ rfl
            go_wp2_with fail
            go_region_held3 (fun w' => w'.cell? ⟨N9, 0, none⟩ = some (.int .i64 K) ∧ w'.cell? ⟨N9, 1, none⟩ = some (.slice (some ⟨g, 0, none⟩) gn gc) ∧ w'.cell? ⟨b, off + k, none⟩ = some (.string (strOfNums key))) (first | with_reducible exact y | exact ⟨q0, q1, hcell6⟩) (first
              | (go_at_call 13; with_reducible refine HH9.out.mono ?_; rintro e w7 ⟨t14, rfl, h14, y, E7, E9, EB⟩))
            clear y q0 q1 hcell6 HH9 E7' E9' EB'
            obtain rfl : t12 = true := h12.out
            obtain rfl : t14 = true := h14.out
            go_wp2_with fail
            refine (HN.out _ _).mono ?_
            rintro e w8 ⟨rfl, rfl⟩
            go_wp2_with fail
            refine (HN.out _ _).mono ?_
            rintro e w8 ⟨rfl, rfl⟩
            go_wp2
            exact ⟨⟨k + 1, by omega, by go_num, E7, E9, EB⟩, by simp [intOf]; omega⟩
          · have hkm' : ¬ (k : Int) < (m : Int) := by omega
            go_wp2
            go_ret
            exact ⟨rfl, EB.out⟩
end Go.Proofs.Ytbhlphhgibikeaa
