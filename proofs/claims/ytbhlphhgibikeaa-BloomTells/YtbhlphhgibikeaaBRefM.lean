/- The document's Make and Has. -/
import Derived.Test.YtbhlphhgibikeaaBMake
import Derived.Deep.QuietTactic
namespace Go.Proofs.Ytbhlphhgibikeaa
open Go.RowKit
set_option linter.unusedVariables false

/-- What lies behind the document's Make. -/
structure MkR (w : World) (K n : Nat) (l : List Int) (ds : List Nat) (W : World) : Prop where
  res : W.heap[w.heap.size]? = some (.cells #[.int .i64 0, .slice none 0 0] 25)
  box : W.heap[w.heap.size + 2]? = some (.cells #[.int .i64 K, .slice (some ⟨w.heap.size + 1, 0, none⟩) n n] 25)
  own : OwnB W w.heap.size (.slice (some ⟨w.heap.size + 1, 0, none⟩) n n) l
  len : l.length = n
  oct : OctL l
  dfr : ∀ b ∈ ds, W.heap[b]? = some (.deferred (some []))
  nod : ds.Nodup
  high : ∀ b ∈ ds, w.heap.size + 3 ≤ b
  below : Below w.heap.size w W

theorem MkR.grown {w : World} {K n : Nat} {l : List Int} {ds : List Nat} {W W' : World} {r : Option Nat} (H : MkR w K n l ds W) (g : W.grownBy W' r) (hr : ∀ j, r = some j → w.heap.size + 3 ≤ j ∧ j ∉ ds) : MkR w K n l ds W' := by
  refine ⟨blk_grown H.res g ?_, blk_grown H.box g ?_, H.own.kept g ?_, H.len, H.oct, fun b hb => blk_grown (H.dfr b hb) g ?_, H.nod, H.high, H.below.grown g H.below.size (fun j hj => by have := (hr j hj).1; omega)⟩
  · intro e; have := (hr _ e.symm).1; omega
  · intro e; have := (hr _ e.symm).1; omega
  · refine .inr ?_
    intro e
    have := (hr _ e.symm).1
    simp only at this
    omega
  · intro e; exact (hr _ e.symm).2 hb
theorem MkR.up {w : World} {K n : Nat} {l : List Int} {ds : List Nat} {W W' : World} (H : MkR w K n l ds W) (h : Below W.heap.size W W') : MkR w K n l ds W' := H.grown (grown_up h none) (fun j hj => by cases hj)

theorem MkR.set {w : World} {K n : Nat} {l : List Int} {ds : List Nat} {W : World} (H : MkR w K n l ds W) (o : Nat) (y : Int) (hy : 0 ≤ y ∧ y ≤ 255) : MkR w K n (l.set o y) ds (W.setCell ⟨w.heap.size + 1, o, none⟩ (.int .u8 y)) := by
  have ho := H.own
  unfold OwnB at ho
  rw [H.len] at ho
  have hst := ho.stored o (.int .u8 y)
  have g := hst.2
  have hds : w.heap.size + 1 ∉ ds := fun e => by have := H.high _ e; omega
  refine ⟨blk_grown H.res g (by simp), blk_grown H.box g (by simp), ?_, by rw [List.length_set]; exact H.len, ?_, fun b hb => blk_grown (H.dfr b hb) g (fun e => by simp at e; exact hds (e ▸ hb)), H.nod, H.high, H.below.grown g H.below.size (fun j hj => by simp at hj; omega)⟩
  · unfold OwnB
    rw [List.length_set, H.len, List.map_set]
    exact hst.1
  · intro x hx
    rcases List.mem_or_eq_of_mem_set hx with h1 | h1
    · exact H.oct x h1
    · rw [h1]; exact hy

set_option maxHeartbeats 1000000 in
theorem refMake_good (keys : List (List Int)) (hk : KeyL keys) (hm : keys.length ≤ 4096) (each : Nat) (he1 : 1 ≤ each) (he2 : each ≤ 16) (v : Value) (w : World) (hv : TextsW w v keys) :
    Calls Try.prog 12 #[v, .int .i64 (each : Int)] w fun e w' => ∃ a c, e = .returned (.tuple #[.agg #[.int .i64 (kOf each : Nat), .slice a (nOf keys.length each) c], .int .i64 0]) ∧ OwnB w' w.heap.size (.slice a (nOf keys.length each) c) (makeL keys (kOf each) (nOf keys.length each)) ∧ Below w.heap.size w w' := by
  obtain ⟨a, c, rfl, hc, hmx⟩ := hv.len
  have HV : Hid (TextsW w (.slice a keys.length c) keys) := hv
  have HK : Hid (KeyL keys) := hk
  obtain ⟨k1, k2⟩ := kOf_le each
  obtain ⟨n1, n2⟩ := nOf_le hm he2
  have hm2 := Nat.mul_le_mul hm he2
  clear hv hk
  have he1' : ¬ (each : Int) < 1 := by omega
  have he2' : ¬ (16 : Int) < (each : Int) := by omega
  have hm' : ¬ (4096 : Int) < (keys.length : Int) := by omega
  have HN : Hid (nOf keys.length each = max 1 ((keys.length * each + 7) / 8)) := rfl
  have HKK : Hid (kOf each = min 8 (max 1 (each * 7 / 10))) := rfl
  have hmul : ((keys.length * each : Nat) : Int) = (keys.length : Int) * (each : Int) := Int.natCast_mul _ _
  obtain ⟨q, hq⟩ : ∃ q : Nat, q = (keys.length * each + 7) / 8 := ⟨_, rfl⟩
  obtain ⟨g, hg⟩ : ∃ g : Nat, g = each * 7 / 10 := ⟨_, rfl⟩
  have hq' : ((keys.length : Int) * (each : Int) + 7) / 8 = (q : Int) := by rw [← hmul, hq]; omega
  have hg' : (each : Int) * 7 / 10 = (g : Int) := by rw [hg]; omega
  rw [← hq] at HN
  rw [← hg] at HKK
  have hgs : g ≤ 11 := by omega
  have hqs : q ≤ 8192 := by omega
  clear hq hg
  generalize nOf keys.length each = n at *
  generalize kOf each = K at *
  obtain ⟨g1, hg1⟩ : ∃ g1 : Nat, g1 = max 1 g := ⟨_, rfl⟩
  have m1 : (if (1 : Int) < (q : Int) then (q : Int) else 1) = (n : Int) := by rw [HN.out]; split <;> omega
  have m2 : (if (1 : Int) < (g : Int) then (g : Int) else 1) = (g1 : Int) := by rw [hg1]; split <;> omega
  have m3 : (if (g1 : Int) < 8 then (g1 : Int) else 8) = (K : Int) := by rw [HKK.out, ← hg1]; split <;> omega
  have m4 : (Instr.makeSlice 23 (.int .i64 (n : Int)) (.int .i64 (n : Int))).run Try.prog (w.alloc (.cells #[.int .i64 0, .slice none 0 0] 25)) = .ok (.slice (some ⟨w.heap.size + 1, 0, none⟩) n n) ((w.alloc (.cells #[.int .i64 0, .slice none 0 0] 25)).alloc (.cells (madeCells #[.int .u8 0] n) 5)) := mk_zeros n n2 _ (by simp)
  have hmulb : (keys.length : Int) * (each : Int) ≤ 65536 := by omega
  have hmula : 0 ≤ (keys.length : Int) * (each : Int) := by omega
  clear hg1 HN HKK
  go_enter Try.func12, Try.ntmps12
  go_wp2
  have H0 : MkR w K n (makeL (keys.take 0) K n) [] (((w.alloc (.cells #[.int .i64 0, .slice none 0 0] 25)).alloc (.cells (madeCells #[.int .u8 0] n) 5)).alloc (.cells #[.int .i64 K, .slice (some ⟨w.heap.size + 1, 0, none⟩) n n] 25)) := by
    refine ⟨blk_al (blk_al (blk_nw _ _ rfl) _) _, blk_nw _ _ (by simp), ?_, by simp [makeL], ?_, (fun b hb => by cases hb), List.nodup_nil, (fun b hb => by cases hb), up_al (up_al (up_alloc _ _) _) _⟩
    · have h := World.ownsRow_lit (base := w.heap.size) (e := 5) (size := 1) (w.alloc (.cells #[.int .i64 0, .slice none 0 0] 25)) (madeCells #[.int .u8 0] n) n (by simp) (by unfold maxLen; omega) (by rw [size_madeCells]; omega)
      have h2 := h.alloc (.cells #[.int .i64 K, .slice (some ⟨w.heap.size + 1, 0, none⟩) n n] 25)
      rw [toList_madeCells_one] at h2
      unfold OwnB makeL
      simp only [List.take_zero, List.foldl_nil, List.length_replicate, List.map_replicate]
      simpa using h2
    · intro x hx
      simp [makeL] at hx
      omega
  generalize ((w.alloc (.cells #[.int .i64 0, .slice none 0 0] 25)).alloc (.cells (madeCells #[.int .u8 0] n) 5)).alloc (.cells #[.int .i64 K, .slice (some ⟨w.heap.size + 1, 0, none⟩) n n] 25) = W0 at *
  go_loopw [7] (fun i wr => ∃ k : Nat, k ≤ keys.length ∧ i = .int .i64 k ∧ Hid (MkR w K n (makeL (keys.take k) K n) [] wr)) (fun i _ => keys.length - (intOf i).toNat)
  case atStart => exact ⟨0, Nat.zero_le _, rfl, H0⟩
  case round =>
    obtain ⟨k, hk, rfl, HM⟩ := hrel
    clear m1 m2 m3 m4 H0
    by_cases hlt : k < keys.length
    · have hlt' : (k : Int) < (keys.length : Int) := by omega
      obtain ⟨hx, hkl⟩ := HK.out (keys.getD k []) (by simp [List.getD, hlt])
      have HSN : Hid (makeL (keys.take (k + 1)) K n = putI (hashL (keys.getD k [])) n K (makeL (keys.take k) K n)) := makeL_snoc keys k K n hlt
      have HC : Hid (∀ W : World, Below w.heap.size w W → ∃ b off, a = some ⟨b, off, none⟩ ∧ W.cell? ⟨b, off + k, none⟩ = some (.string (strOfNums (keys.getD k [])))) := by
        intro W hW
        obtain ⟨b, off, cap, e, hcell⟩ := (HV.out.up hW).at k hlt
        simp at e
        exact ⟨b, off, e.1, hcell⟩
      generalize keys.getD k [] = key at *
      obtain ⟨z0, z1⟩ := hash_u64 key
      have HP : Hid (∀ (i : Nat) (w : World), i ≤ 7 → Calls Try.prog 29 #[.string (strOfNums key), .int .i64 i, .int .i64 (8 * (n : Int))] w fun e w' => e = .returned (.int .i64 (plc (hashL key) i n)) ∧ w' = w) := fun i w hi => place_any key hx hkl i hi n n1 n2 w
      generalize hashL key = h at *
      generalize makeL (keys.take k) K n = l at *
      go_wp2
      go_loopw [8] (fun i wr => ∃ j : Nat, j ≤ K ∧ i = .int .i64 j ∧ Hid (MkR w K n (putI h n j l) [] wr)) (fun i _ => K - (intOf i).toNat)
      case atStart => exact ⟨0, Nat.zero_le _, rfl, HM⟩
      case round =>
        clear HM
        obtain ⟨j, hj, rfl, HM⟩ := hrel
        have q1 := blk_cell HM.out.box 0 _ rfl
        have q2 := blk_cell HM.out.box 1 _ rfl
        by_cases hltj : j < K
        · have hltj' : (j : Int) < (K : Int) := by omega
          obtain ⟨b, off, rfl, hcell⟩ := HC.out _ HM.out.below
          have HMM : Hid (MkR w K n (putI h n j l) [] wr) := HM.out
          have HPj := fun w => HP.out j w (by omega)
          have hpl : plc h j n / 8 < n := plc_lt n1
          have HPI : Hid (putI h n (j + 1) l = putL (putI h n j l) (plc h j n)) := putI_succ h n j l
          have HHP : Hid (∀ (w : World), Calls Try.prog 29 #[.string (strOfNums key), .int .i64 j, .int .i64 (8 * (n : Int))] w fun e w' => e = .returned (.int .i64 (plc h j n)) ∧ w' = w) := HPj
          clear HPj
          clear HM
          obtain ⟨p, hp⟩ : ∃ p, plc h j n = p := ⟨_, rfl⟩
          rw [hp] at hpl HPI HHP
          clear hp
          have HM2 : Hid (∀ nq, MkR w K n (putI h n j l) [] (wr.drewN nq)) := fun nq => HMM.out.up (up_drewN _ _)
          go_wp2_with fail
          go_quiet ((go_at_call 29; exact Calls.quiet_of_same (HHP.out _)))
          have M5 := HM2.out nq
          clear HM2 HMM HC
          have HQ : Hid (putI h n (j + 1) l = (putI h n j l).set (p / 8) ((((putI h n j l).getD (p / 8) 0).toNat ||| bitN p : Nat) : Int)) := HPI.out
          clear HPI
          generalize wr.drewN nq = W5 at *
          generalize putI h n j l = l1 at *
          have hbl := bit_le p
          have hbe := bit_eq p
          have hor : 0 ≤ ((((l1.getD (p / 8) 0).toNat ||| bitN p : Nat)) : Int) ∧ ((((l1.getD (p / 8) 0).toNat ||| bitN p : Nat)) : Int) ≤ 255 := or_oct (getD_oct M5.oct _)
          have HO := M5.set (p / 8) _ hor
          have q5 := blk_cell M5.box 1 _ rfl
          have ho := M5.own
          unfold OwnB at ho
          rw [M5.len] at ho
          have hc0 := ho.cellAt (p / 8) (by omega)
          have hf0 := ho.frozenAt (p / 8)
          have hlo : p / 8 < l1.length := by rw [M5.len]; exact hpl
          obtain ⟨x0, x1⟩ := getD_oct M5.oct (p / 8)
          have hc1 : W5.cell? ⟨w.heap.size + 1, p / 8, none⟩ = some (.int .u8 (l1.getD (p / 8) 0)) := by
            rw [hc0, List.getElem?_map]
            simp [List.getD, hlo]
          generalize l1.getD (p / 8) 0 = x at *
          have ea : bits .or .u8 x (2 ^ (p % 8) % 256) = ((x.toNat ||| bitN p : Nat) : Int) := by
            rw [← hbe]
            have := u8_or x (bitN p : Int) x0 (by omega) (by omega) (by omega)
            rw [this]
            rfl
          generalize x.toNat ||| bitN p = y at *
          have HOO : Hid (MkR w K n (l1.set (p / 8) y) [] (W5.setCell ⟨w.heap.size + 1, p / 8, none⟩ (.int .u8 y))) := HO
          have hpl' : (p : Int) / 8 < (n : Int) := by omega
          clear HO M5 ho hc0 hbe
          go_wp2_with fail
          go_region
          all_goals go_wp2
          refine ⟨⟨j + 1, by omega, by go_num, ?_⟩, by simp [intOf]; omega⟩
          unfold Hid
          rw [HQ.out]
          exact HOO.out.up (up_dr (Below.refl _ _))
        · have hltj' : ¬ (j : Int) < (K : Int) := by omega
          obtain rfl : j = K := by omega
          go_wp2
          refine ⟨⟨k + 1, by omega, by go_num, ?_⟩, by simp [intOf]; omega⟩
          unfold Hid
          rw [HSN.out]
          exact HM.out
    · have hlt' : ¬ (k : Int) < (keys.length : Int) := by omega
      obtain rfl : k = keys.length := by omega
      have HH := HM.out
      rw [List.take_length] at HH
      clear HM
      have HHH : Hid (MkR w K n (makeL keys K n) [] wr) := HH
      have q1 := blk_cell HH.box 0 _ rfl
      have q2 := blk_cell HH.box 1 _ rfl
      have q3 := blk_cell HH.res 0 _ rfl
      have q4 := blk_cell HH.res 1 _ rfl
      have q5 := blk_frozen HH.res 0
      have q6 := blk_frozen HH.res 1
      clear HH
      go_wp2
      have g2 := set2_grown wr w.heap.size (.int .i64 K) (.slice (some ⟨w.heap.size + 1, 0, none⟩) n n)
      have b2 := set2_blk HHH.out.res (.int .i64 K) (.slice (some ⟨w.heap.size + 1, 0, none⟩) n n)
      refine bodyPost_ret (results_fil rfl (.inr rfl) _ _ rfl b2) rfl ?_
      exact ⟨some ⟨w.heap.size + 1, 0, none⟩, n, rfl, HHH.out.own.kept g2 (.inr (by simp [Value.ownBlock])), HHH.out.below.grown g2 HHH.out.below.size (fun j hj => by simp at hj; omega)⟩
end Go.Proofs.Ytbhlphhgibikeaa
