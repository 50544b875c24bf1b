/- Texts of layers 1 to 13, in this order. -/
import Derived.Test.YthiegmhplnbdlaaGreatBHas
import Derived.Deep.QuietTactic
import Derived.Test.YthiegmhplnbdlaaGreatG08

namespace Go.Proofs.YthiegmhplnbdlaaGreat
open Go.RowKit Go.Shelf
set_option linter.unusedVariables false
set_option maxRecDepth 20000
attribute [local go_sem] Oper.semAt_some
def srow (s : List Int) : List Value := [.string (strOfNums s)]
def TextsW (w : World) (v : Value) (l : List (List Int)) : Prop := Rws 1 w v (l.map srow)
theorem TextsW.up {w w' : World} {v : Value} {l : List (List Int)} (h : TextsW w v l) (hb : Below w.heap.size w w') : TextsW w' v l := Rws.up h hb
theorem TextsW.len {w : World} {v : Value} {l : List (List Int)} (h : TextsW w v l) : ∃ a cap, v = .slice a l.length cap ∧ l.length ≤ cap ∧ cap ≤ maxLen := by
  obtain ⟨a, cap, e, h1, h2⟩ := Rws.len h
  rw [List.length_map] at e h1
  exact ⟨a, cap, e, h1, h2⟩
theorem TextsW.at {w : World} {v : Value} {l : List (List Int)} (h : TextsW w v l) (k : Nat) (hk : k < l.length) : ∃ b off cap, v = .slice (some ⟨b, off, none⟩) l.length cap ∧ w.cell? ⟨b, off + k, none⟩ = some (.string (strOfNums (l.getD k []))) := by
  obtain ⟨b, off, cap, e, _, _, hc⟩ := Rws.at h k (by rw [List.length_map]; exact hk)
  rw [List.length_map] at e
  have hr : (l.map srow).getD k [] = [.string (strOfNums (l.getD k []))] := by simp [List.getD, hk, srow]
  rw [hr] at hc
  have c0 := hc 0 _ rfl
  rw [Nat.mul_one, Nat.add_zero] at c0
  exact ⟨b, off, cap, e, c0⟩
def KeyL (l : List (List Int)) : Prop := ∀ s ∈ l, OctL s ∧ s.length ≤ 140737488355328
def putL (l : List Int) (p : Nat) : List Int := l.set (p / 8) (((l.getD (p / 8) 0).toNat ||| bitN p : Nat) : Int)
def putI (h : Int) (n : Nat) (i : Nat) (l : List Int) : List Int := (List.range i).foldl (fun l i => putL l (plc h i n)) l
def makeL (keys : List (List Int)) (K n : Nat) : List Int := keys.foldl (fun l key => putI (hashL key) n K l) (List.replicate n 0)
def kOf (each : Nat) : Nat := min 8 (max 1 (each * 7 / 10))
def nOf (m each : Nat) : Nat := max 1 ((m * each + 7) / 8)
theorem kOf_le (each : Nat) : 1 ≤ kOf each ∧ kOf each ≤ 8 := by unfold kOf; omega
theorem nOf_le {m each : Nat} (hm : m ≤ 4096) (he : each ≤ 16) : 1 ≤ nOf m each ∧ nOf m each ≤ 8192 := by
  have := Nat.mul_le_mul hm he
  unfold nOf
  omega
theorem putI_succ (h : Int) (n i : Nat) (l : List Int) : putI h n (i + 1) l = putL (putI h n i l) (plc h i n) := by
  unfold putI
  rw [List.range_succ, List.foldl_append]
  rfl
theorem or_oct {x : Int} {p : Nat} (h : 0 ≤ x ∧ x ≤ 255) : 0 ≤ (((x.toNat ||| bitN p : Nat)) : Int) ∧ (((x.toNat ||| bitN p : Nat)) : Int) ≤ 255 := by
  have h1 : x.toNat < 2 ^ 8 := by omega
  have h2 : bitN p < 2 ^ 8 := by have := bit_le p; omega
  have := Nat.or_lt_two_pow h1 h2
  omega
theorem putL_len (l : List Int) (p : Nat) : (putL l p).length = l.length := by unfold putL; simp
theorem getD_oct {l : List Int} (h : OctL l) (k : Nat) : 0 ≤ l.getD k 0 ∧ l.getD k 0 ≤ 255 := by
  by_cases hk : k < l.length
  · exact h _ (by simp [List.getD, hk])
  · simp [List.getD, hk]
theorem putL_oct {l : List Int} (h : OctL l) (p : Nat) : OctL (putL l p) := by
  intro x hx
  unfold putL at hx
  rcases List.mem_or_eq_of_mem_set hx with h1 | h1
  · exact h x h1
  · rw [h1]; exact or_oct (getD_oct h _)
structure MkW (w : World) (K n : Nat) (l : List Int) (ds : List Nat) (W : World) : Prop where
  res : W.heap[w.heap.size]? = some (.cells #[.int .i64 0, .slice none 0 0] 57)
  box : W.heap[w.heap.size + 2]? = some (.cells #[.int .i64 K, .slice (some ⟨w.heap.size + 1, 0, none⟩) n n] 57)
  own : OwnB W w.heap.size (.slice (some ⟨w.heap.size + 1, 0, none⟩) n n) l
  len : l.length = n
  oct : OctL l
  dfr : ∀ b ∈ ds, W.heap[b]? = some (.deferred (some []))
  nod : ds.Nodup
  high : ∀ b ∈ ds, w.heap.size + 3 ≤ b
  below : Below w.heap.size w W
theorem MkW.grown {w : World} {K n : Nat} {l : List Int} {ds : List Nat} {W W' : World} {r : Option Nat} (H : MkW w K n l ds W) (g : W.grownBy W' r) (hr : ∀ j, r = some j → w.heap.size + 3 ≤ j ∧ j ∉ ds) : MkW w K n l ds W' := by
  refine ⟨blk_grown H.res g ?_, blk_grown H.box g ?_, H.own.kept g ?_, H.len, H.oct, fun b hb => blk_grown (H.dfr b hb) g ?_, H.nod, H.high, H.below.grown g H.below.size (fun j hj => by have := (hr j hj).1; omega)⟩
  · intro e; have := (hr _ e.symm).1; omega
  · intro e; have := (hr _ e.symm).1; omega
  · refine .inr ?_
    intro e
    have := (hr _ e.symm).1
    simp only at this
    omega
  · intro e; exact (hr _ e.symm).2 hb
theorem MkW.up {w : World} {K n : Nat} {l : List Int} {ds : List Nat} {W W' : World} (H : MkW w K n l ds W) (h : Below W.heap.size W W') : MkW w K n l ds W' := H.grown (grown_up h none) (fun j hj => by cases hj)
theorem MkW.set {w : World} {K n : Nat} {l : List Int} {ds : List Nat} {W : World} (H : MkW w K n l ds W) (o : Nat) (y : Int) (hy : 0 ≤ y ∧ y ≤ 255) : MkW w K n (l.set o y) ds (W.setCell ⟨w.heap.size + 1, o, none⟩ (.int .u8 y)) := by
  have ho := H.own
  unfold OwnB at ho
  rw [H.len] at ho
  have hst := ho.stored o (.int .u8 y)
  have g := hst.2
  have hds : w.heap.size + 1 ∉ ds := fun e => by have := H.high _ e; omega
  refine ⟨blk_grown H.res g (by simp), blk_grown H.box g (by simp), ?_, by rw [List.length_set]; exact H.len, ?_, fun b hb => blk_grown (H.dfr b hb) g (fun e => by simp at e; exact hds (e ▸ hb)), H.nod, H.high, H.below.grown g H.below.size (fun j hj => by simp at hj; omega)⟩
  · unfold OwnB
    rw [List.length_set, H.len, List.map_set]
    exact hst.1
  · intro x hx
    rcases List.mem_or_eq_of_mem_set hx with h1 | h1
    · exact H.oct x h1
    · rw [h1]; exact hy
structure MkI (w : World) (K n : Nat) (l : List Int) (ds : List Nat) (s : Nat) (h : Int) (r : Loop) (W : World) : Prop where
  core : MkW w K n l ((s + 3) :: ds) W
  low3 : w.heap.size + 3 ≤ s
  ins : s + 4 ∉ ds
  pbox : W.heap[s]? = some (.cells #[.int .i64 K, .slice (some ⟨w.heap.size + 1, 0, none⟩) n n] 57)
  low : W.heap[s + 1]? = some (.cells #[.int .u64 (lowN h)] 46)
  hgh : W.heap[s + 2]? = some (.cells #[.int .u64 (highN h)] 46)
  loop : W.heap[s + 4]? = some (.loop r)
theorem MkI.put {w : World} {K n : Nat} {l : List Int} {ds : List Nat} {s : Nat} {h : Int} {r : Loop} {W : World} (H : MkI w K n l ds s h r W) (r' : Loop) : MkI w K n l ds s h r' (W.putObj (s + 4) (.loop r')) := by
  have g := grownBy_putObj' W (s + 4) (.loop r')
  refine ⟨H.core.grown g (fun j hj => ?_), H.low3, H.ins, blk_grown H.pbox g (by simp), blk_grown H.low g (by simp), blk_grown H.hgh g (by simp), World.putObj_heap_same (blk_lt H.loop)⟩
  have := H.low3
  have := H.ins
  simp at hj
  subst hj
  refine ⟨by omega, ?_⟩
  intro e
  rcases List.mem_cons.1 e with e | e
  · omega
  · exact H.ins e
theorem MkI.set {w : World} {K n : Nat} {l : List Int} {ds : List Nat} {s : Nat} {h : Int} {r : Loop} {W : World} (H : MkI w K n l ds s h r W) (o : Nat) (y : Int) (hy : 0 ≤ y ∧ y ≤ 255) : MkI w K n (l.set o y) ds s h r (W.setCell ⟨w.heap.size + 1, o, none⟩ (.int .u8 y)) := by
  have g := grown_set W ⟨w.heap.size + 1, o, none⟩ (.int .u8 y)
  have := H.low3
  exact ⟨H.core.set o y hy, H.low3, H.ins, blk_grown H.pbox g (by simp; omega), blk_grown H.low g (by simp; omega), blk_grown H.hgh g (by simp; omega), blk_grown H.loop g (by simp; omega)⟩
theorem own_blk {W W' : World} {base g n cap k : Nat} {e : TypeId} {sz : Nat} {xs : List Value} (h : W.ownsRow base e sz (.slice (some ⟨g, 0, none⟩) n cap) k xs) (hb : W'.heap[g]? = W.heap[g]?) : W'.ownsRow base e sz (.slice (some ⟨g, 0, none⟩) n cap) k xs := by
  obtain ⟨h1, h2⟩ := h
  refine ⟨h1, ?_⟩
  rcases h2 with ⟨h0, _⟩ | ⟨g', cap', cur, e1, hg, r1, r⟩
  · cases h0
  · have : g' = g := by simp at e1; omega
    subst this
    exact .inr ⟨_, cap', cur, e1, hg, hb.trans r1, r⟩
theorem makeL_snoc (keys : List (List Int)) (k K n : Nat) (hk : k < keys.length) : makeL (keys.take (k + 1)) K n = putI (hashL (keys.getD k [])) n K (makeL (keys.take k) K n) := by
  unfold makeL
  rw [take_snoc keys k [] hk, List.foldl_append]
  rfl
theorem results_fil {fn : Func} {t : TypeId} {p q : Nat} (h : fn.results = #[.cell p t, .tmp q]) (hl : t = 57 ∨ t = 57) (tmps : Array Value) (w : World) {N : Nat} {a b : Value} (ht : tmps.getD p undef = .pointer (some ⟨N, 0, none⟩))
    (hc : w.heap[N]? = some (.cells #[a, b] t)) : (results fn tmps).run Tryz.prog w = .ok (.tuple #[.agg #[a, b], tmps.getD q undef]) w := by
  have c0 := blk_cell hc 0 a rfl
  have c1 := blk_cell hc 1 b rfl
  have ht' : tmps[p]?.getD undef = .pointer (some ⟨N, 0, none⟩) := by simpa using ht
  rcases hl with rfl | rfl
  · simp only [results, h]
    simp [ht', go_sem, c0, c1]
  · simp only [results, h]
    simp [ht', go_sem, c0, c1]
theorem mk_zeros (n : Nat) (hn : n ≤ 8192) (w : World) {N : Nat} (hN : w.heap.size = N) : (Instr.makeSlice 25 (.int .i64 (n : Int)) (.int .i64 (n : Int))).run Tryz.prog w = .ok (.slice (some ⟨N, 0, none⟩) n n) (w.alloc (.cells (madeCells #[.int .u8 0] n) 5)) := by
  subst hN
  obtain ⟨i0, hi, hz0, hz1, hz2⟩ := info_some Tryz.info5
  have h := run_makeSlice (P := Tryz.prog) (w := w) 25 5 i0 (.int .u8 0) Tryz.underlying25 hi hz0 .i64 .i64 (n : Int) (n : Int) (by omega) (Int.le_refl _) (by rw [hz1]; simp; omega) (by rw [hz2]; omega) (by omega)
  rw [hz1, Nat.mul_one] at h
  exact h
set_option maxHeartbeats 1000000 in
theorem make_good (keys : List (List Int)) (hk : KeyL keys) (hm : keys.length ≤ 4096) (each : Nat) (he1 : 1 ≤ each) (he2 : each ≤ 16) (v : Value) (w : World) (hv : TextsW w v keys) :
    Calls Tryz.prog 67 #[v, .int .i64 (each : Int)] w fun e w' => ∃ a c, e = .returned (.tuple #[.agg #[.int .i64 (kOf each : Nat), .slice a (nOf keys.length each) c], .int .i64 0]) ∧ OwnB w' w.heap.size (.slice a (nOf keys.length each) c) (makeL keys (kOf each) (nOf keys.length each)) ∧ Below w.heap.size w w' := by
  obtain ⟨a, c, rfl, hc, hmx⟩ := hv.len
  have HV : Hid (TextsW w (.slice a keys.length c) keys) := hv
  have HK : Hid (KeyL keys) := hk
  obtain ⟨k1, k2⟩ := kOf_le each
  obtain ⟨n1, n2⟩ := nOf_le hm he2
  have hm2 := Nat.mul_le_mul hm he2
  clear hv hk
  have he1' : ¬ (each : Int) < 1 := by omega
  have he2' : ¬ (16 : Int) < (each : Int) := by omega
  have hm' : ¬ (4096 : Int) < (keys.length : Int) := by omega
  have HN : Hid (nOf keys.length each = max 1 ((keys.length * each + 7) / 8)) := rfl
  have HKK : Hid (kOf each = min 8 (max 1 (each * 7 / 10))) := rfl
  have hmul : ((keys.length * each : Nat) : Int) = (keys.length : Int) * (each : Int) := Int.natCast_mul _ _
  obtain ⟨q, hq⟩ : ∃ q : Nat, q = (keys.length * each + 7) / 8 := ⟨_, rfl⟩
  obtain ⟨g, hg⟩ : ∃ g : Nat, g = each * 7 / 10 := ⟨_, rfl⟩
  have hq' : ((keys.length : Int) * (each : Int) + 7) / 8 = (q : Int) := by rw [← hmul, hq]; omega
  have hg' : (each : Int) * 7 / 10 = (g : Int) := by rw [hg]; omega
  rw [← hq] at HN
  rw [← hg] at HKK
  have hgs : g ≤ 11 := by omega
  have hqs : q ≤ 8192 := by omega
  clear hq hg
  generalize nOf keys.length each = n at *
  generalize kOf each = K at *
  obtain ⟨g1, hg1⟩ : ∃ g1 : Nat, g1 = max 1 g := ⟨_, rfl⟩
  have m1 : (if (1 : Int) < (q : Int) then (q : Int) else 1) = (n : Int) := by rw [HN.out]; split <;> omega
  have m2 : (if (1 : Int) < (g : Int) then (g : Int) else 1) = (g1 : Int) := by rw [hg1]; split <;> omega
  have m3 : (if (g1 : Int) < 8 then (g1 : Int) else 8) = (K : Int) := by rw [HKK.out, ← hg1]; split <;> omega
  have m4 : (Instr.makeSlice 25 (.int .i64 (n : Int)) (.int .i64 (n : Int))).run Tryz.prog (w.alloc (.cells #[.int .i64 0, .slice none 0 0] 57)) = .ok (.slice (some ⟨w.heap.size + 1, 0, none⟩) n n) ((w.alloc (.cells #[.int .i64 0, .slice none 0 0] 57)).alloc (.cells (madeCells #[.int .u8 0] n) 5)) := mk_zeros n n2 _ (by simp)
  have hmulb : (keys.length : Int) * (each : Int) ≤ 65536 := by omega
  have hmula : 0 ≤ (keys.length : Int) * (each : Int) := by omega
  clear hg1 HN HKK
  refine (callsIn_wide (n := 9)).1 ?_
  refine callsIn_of_wp_marks Tryz.func67 rfl trivial ?_ rfl
  simp only [Tryz.ntmps67, List.size_toArray, List.length_cons, List.length_nil, Nat.reduceAdd, Nat.reduceSub, Array.replicate_succ, Array.replicate_zero, List.push_toArray, List.append_toArray, List.nil_append, List.cons_append]
  gi_wp2
  have H0 : MkW w K n (makeL (keys.take 0) K n) [] (((w.alloc (.cells #[.int .i64 0, .slice none 0 0] 57)).alloc (.cells (madeCells #[.int .u8 0] n) 5)).alloc (.cells #[.int .i64 K, .slice (some ⟨w.heap.size + 1, 0, none⟩) n n] 57)) := by
    refine ⟨blk_al (blk_al (blk_nw _ _ rfl) _) _, blk_nw _ _ (by simp), ?_, by simp [makeL], ?_, (fun b hb => by cases hb), List.nodup_nil, (fun b hb => by cases hb), up_al (up_al (up_alloc _ _) _) _⟩
    · have h := World.ownsRow_lit (base := w.heap.size) (e := 5) (size := 1) (w.alloc (.cells #[.int .i64 0, .slice none 0 0] 57)) (madeCells #[.int .u8 0] n) n (by simp) (by unfold maxLen; omega) (by rw [size_madeCells]; omega)
      have h2 := h.alloc (.cells #[.int .i64 K, .slice (some ⟨w.heap.size + 1, 0, none⟩) n n] 57)
      rw [toList_madeCells_one] at h2
      unfold OwnB makeL
      simp only [List.take_zero, List.foldl_nil, List.length_replicate, List.map_replicate]
      simpa using h2
    · intro x hx
      simp [makeL] at hx
      omega
  generalize ((w.alloc (.cells #[.int .i64 0, .slice none 0 0] 57)).alloc (.cells (madeCells #[.int .u8 0] n) 5)).alloc (.cells #[.int .i64 K, .slice (some ⟨w.heap.size + 1, 0, none⟩) n n] 57) = W0 at *
  refine wpIn_loop (fun a' W => ∃ (k : Nat) (ds : List Nat) (u9 u41 u42 u43 u44 u45 u46 u57 : Value), Hid (MkW w K n (makeL (keys.take k) K n) ds W) ∧ k ≤ keys.length ∧ a' = Act.mk #[.slice a keys.length c, .int .i64 each, undef, undef,
          .pointer (some ⟨w.heap.size, 0, none⟩), .int .i64 0, .int .i64 n,
          .pointer (some ⟨w.heap.size + 1 + 1, 0, none⟩), undef, u9, undef, undef,
          .int .i64 each, .bool false, .bool false, .int .i64 each,
          .bool false, .bool false, undef, .slice a keys.length c, .int .i64 keys.length,
          .bool false, undef, .slice a keys.length c, .int .i64 keys.length,
          .int .i64 each, .int .i64 (keys.length * each),
          .int .i64 (keys.length * each + 7), .int .i64 q, .int .i64 n,
          .int .i64 each, .int .i64 (each * 7), .int .i64 g,
          .int .i64 g1, .int .i64 K, .int .i64 n,
          .slice (some ⟨w.heap.size + 1, 0, none⟩) n n,
          .agg #[.int .i64 K, .slice (some ⟨w.heap.size + 1, 0, none⟩) n n],
          .slice a keys.length c, .int .i64 keys.length, .int .i64 k, u41, u42, u43,
          u44, u45, u46, undef, undef, undef, undef, undef, undef, undef, undef, undef, undef, u57, undef] (marks ds)) (fun a' W => keys.length - (intOf (a'.tmps.getD 40 undef)).toNat) ?start ?round
  case start => exact ⟨0, [], undef, undef, undef, undef, undef, undef, undef, undef, H0, Nat.zero_le _, rfl⟩
  case round =>
    rintro _ W ⟨k, ds, u9, u41, u42, u43, u44, u45, u46, u57, HM, hk, rfl⟩
    by_cases hlt : k < keys.length
    · have hlt' : (k : Int) < (keys.length : Int) := by omega
      obtain ⟨b, off, cap, e, hcell⟩ := (HV.out.up HM.out.below).at k hlt
      obtain ⟨hx, hkl⟩ := HK.out (keys.getD k []) (by simp [List.getD, hlt])
      simp at e
      obtain ⟨rfl, rfl⟩ := e
      have HSN : Hid (makeL (keys.take (k + 1)) K n = putI (hashL (keys.getD k [])) n K (makeL (keys.take k) K n)) := makeL_snoc keys k K n hlt
      generalize keys.getD k [] = key at *
      have HP : Hid (∀ w' : World, Calls Tryz.prog 49 #[.agg #[.int .i64 K, .slice (some ⟨w.heap.size + 1, 0, none⟩) n n], .string (strOfNums key)] w' fun e w'' => e = .returned (.func (.func 79) #[] #[.pointer (some ⟨w'.heap.size, 0, none⟩), .pointer (some ⟨w'.heap.size + 1, 0, none⟩), .pointer (some ⟨w'.heap.size + 2, 0, none⟩)]) ∧
        w'' = ((w'.alloc (.cells #[.int .i64 K, .slice (some ⟨w.heap.size + 1, 0, none⟩) n n] 57)).alloc (.cells #[.int .u64 (lowN (hashL key))] 46)).alloc (.cells #[.int .u64 (highN (hashL key))] 46)) := fun w' => places_any key hx hkl K _ n n w'
      obtain ⟨z0, z1⟩ := hash_u64 key
      generalize hashL key = h at *
      generalize makeL (keys.take k) K n = l at *
      have q1 := blk_cell HM.out.box 0 _ rfl
      have q2 := blk_cell HM.out.box 1 _ rfl
      clear H0 m1 m2 m3 m4
      gi_wp2
      refine ⟨trivial, ?_⟩
      refine (callsIn_wide.2 (HP.out _)).mono ?_
      rintro e w1 ⟨rfl, rfl⟩
      gi_wp2
      have hs3 : w.heap.size + 3 ≤ W.heap.size := by have := blk_lt HM.out.box; omega
      have M1 := HM.out.up (up_al (up_al (up_alloc W (.cells #[.int .i64 K, .slice (some ⟨w.heap.size + 1, 0, none⟩) n n] 57)) (.cells #[.int .u64 (lowN h)] 46)) (.cells #[.int .u64 (highN h)] 46))
      have c0 : (((W.alloc (.cells #[.int .i64 K, .slice (some ⟨w.heap.size + 1, 0, none⟩) n n] 57)).alloc (.cells #[.int .u64 (lowN h)] 46)).alloc (.cells #[.int .u64 (highN h)] 46)).heap[W.heap.size]? = some (.cells #[.int .i64 K, .slice (some ⟨w.heap.size + 1, 0, none⟩) n n] 57) := blk_al (blk_al (blk_nw _ _ rfl) _) _
      have c1 : (((W.alloc (.cells #[.int .i64 K, .slice (some ⟨w.heap.size + 1, 0, none⟩) n n] 57)).alloc (.cells #[.int .u64 (lowN h)] 46)).alloc (.cells #[.int .u64 (highN h)] 46)).heap[W.heap.size + 1]? = some (.cells #[.int .u64 (lowN h)] 46) := blk_al (blk_nw _ _ (by simp)) _
      have c2 : (((W.alloc (.cells #[.int .i64 K, .slice (some ⟨w.heap.size + 1, 0, none⟩) n n] 57)).alloc (.cells #[.int .u64 (lowN h)] 46)).alloc (.cells #[.int .u64 (highN h)] 46)).heap[W.heap.size + 2]? = some (.cells #[.int .u64 (highN h)] 46) := blk_nw _ _ (by simp)
      have d3 : (((W.alloc (.cells #[.int .i64 K, .slice (some ⟨w.heap.size + 1, 0, none⟩) n n] 57)).alloc (.cells #[.int .u64 (lowN h)] 46)).alloc (.cells #[.int .u64 (highN h)] 46)).heap.size = W.heap.size + 3 := by simp
      have hnd : ∀ j, W.heap.size ≤ j → j ∉ ds := fun j hj e => by have := blk_lt (HM.out.dfr j e); omega
      generalize ((W.alloc (.cells #[.int .i64 K, .slice (some ⟨w.heap.size + 1, 0, none⟩) n n] 57)).alloc (.cells #[.int .u64 (lowN h)] 46)).alloc (.cells #[.int .u64 (highN h)] 46) = W3 at *
      obtain ⟨s, hs⟩ : ∃ s, s = W.heap.size := ⟨_, rfl⟩
      rw [← hs] at hs3 c0 c1 c2 d3 hnd ⊢
      clear hs
      refine range_law rfl (enters_of Tryz.func79 (by kernel_rfl) rfl) ?_
      intro r r1 r2 r3 r4 r5 r6
      rw [d3]
      have J0 : MkI w K n (putI h n 0 l) ds s h r ((W3.alloc (.deferred (some []))).alloc (.loop r)) := by
        have M2 := M1.up (up_al (up_alloc W3 (.deferred (some []))) (.loop r))
        refine ⟨⟨M2.res, M2.box, M2.own, M2.len, M2.oct, ?_, List.nodup_cons.2 ⟨hnd _ (by omega), M2.nod⟩, ?_, M2.below⟩, hs3, hnd _ (by omega), blk_al (blk_al c0 _) _, blk_al (blk_al c1 _) _, blk_al (blk_al c2 _) _, blk_nw _ _ (by simp; omega)⟩
        · intro b hb
          rcases List.mem_cons.1 hb with rfl | hb
          · exact blk_al (blk_nw _ _ d3) _
          · exact M2.dfr b hb
        · intro b hb
          rcases List.mem_cons.1 hb with rfl | hb
          · omega
          · exact M2.high b hb
      generalize (W3.alloc (.deferred (some []))).alloc (.loop r) = W1 at *
      refine (iter_in 8 (s + 4) s K k2 h z0 z1 (some ⟨w.heap.size + 1, 0, none⟩) n n n1 n2 (fun i W => MkI w K n (putI h n i l) ds s h r W) (fun W => False) W1 ?hY ?hK J0).mono ?post
      case hK =>
        rintro i W' H
        exact ⟨blk_cell H.pbox 0 _ rfl, blk_cell H.pbox 1 _ rfl, blk_cell H.low 0 _ rfl, blk_cell H.hgh 0 _ rfl⟩
      case post =>
        rintro e W' ⟨hv, H | hf⟩
        · refine ⟨hv, r, H.loop, (by rw [r1]; simp), .inl ⟨r2, ?_⟩⟩
          have H2 : Hid (MkI w K n (putI h n K l) ds s h { r with state := .exhausted } (W'.putObj (s + 4) (.loop { r with state := .exhausted }))) := H.put _
          generalize W'.putObj (s + 4) (.loop { r with state := .exhausted }) = W2 at *
          clear H J0 M1 c0 c1 c2 d3 r1 r2 r3 r4 r5 r6
          gi_wp2
          refine ⟨⟨k + 1, (s + 3) :: ds, _, _, _, _, _, _, _, _, ?_, by omega, rfl⟩, ?_⟩
          · unfold Hid
            rw [HSN.out]
            exact H2.out.core
          · simp [intOf]
            omega
        · exact hf.elim
      case hY =>
        intro i W0 hi H
        have hpl : plc h i n / 8 < n := plc_lt n1
        have HPI : Hid (putI h n (i + 1) l = putL (putI h n i l) (plc h i n)) := putI_succ h n i l
        have hPL : putL (putI h n i l) (plc h i n) = (putI h n i l).set (plc h i n / 8) ((((putI h n i l).getD (plc h i n / 8) 0).toNat ||| bitN (plc h i n) : Nat) : Int) := rfl
        have hbl := bit_le (plc h i n)
        have hor : 0 ≤ (((((putI h n i l).getD (plc h i n / 8) 0).toNat ||| bitN (plc h i n) : Nat)) : Int) ∧ (((((putI h n i l).getD (plc h i n / 8) 0).toNat ||| bitN (plc h i n) : Nat)) : Int) ≤ 255 := or_oct (getD_oct H.core.oct _)
        rw [hPL] at HPI
        clear hPL
        generalize putI h n (i + 1) l = l2 at *
        generalize putI h n i l = l1 at *
        generalize plc h i n = p at *
        generalize bitN p = bt at *
        have hpl' : ((p / 8 : Nat) : Int) < (n : Int) := by omega
        generalize p / 8 = o at *
        refine ⟨r.fn, _, r.assign, r.body, run_yield H.loop (by rw [r4]; rfl), roundIn_of_wpIn trivial ?_⟩
        rw [r3, r4, r5, r6]
        gi_wp2
        refine ⟨_, run_beginRound H.loop r1, ?_⟩
        have H2 := H.put { r with state := .busy }
        generalize W0.putObj (s + 4) (.loop { r with state := .busy }) = Wb at *
        have HB : Hid (MkI w K n l1 ds s h { r with state := .busy } Wb) := H2
        have q5 := blk_cell H2.core.box 1 _ rfl
        have ho := H2.core.own
        unfold OwnB at ho
        rw [H2.core.len] at ho
        have hc0 := ho.cellAt o (by omega)
        have hf0 := ho.frozenAt o
        have hlo : o < l1.length := by rw [H2.core.len]; exact hpl
        obtain ⟨x0, x1⟩ := getD_oct H2.core.oct o
        have hc1 : Wb.cell? ⟨w.heap.size + 1, o, none⟩ = some (.int .u8 (l1.getD o 0)) := by
          rw [hc0, List.getElem?_map]
          simp [List.getD, hlo]
        generalize l1.getD o 0 = x at *
        have ea : bits .or .u8 x (bt : Int) = ((x.toNat ||| bt : Nat) : Int) := by
          have := u8_or x (bt : Int) x0 (by omega) (by omega) (by omega)
          rw [this]
          rfl
        have HR : Hid (r.state = .ready ∧ r.pending = none) := ⟨r1, r2⟩
        have HO := HB.out.set o _ hor
        generalize x.toNat ||| bt = y at *
        have HOO : Hid (MkI w K n (l1.set o y) ds s h { r with state := .busy } (Wb.setCell ⟨w.heap.size + 1, o, none⟩ (.int .u8 y))) := HO
        clear HO H H2 J0 M1 c0 c1 c2 ho hc0 r1 r2 r3 r4 r5 r6
        gi_wp2
        have hend := run_endRound (P := Tryz.prog) none HOO.out.loop
        have hrr : ({ ({ r with state := .busy } : Loop) with state := if (none : Option Code).isNone then LoopState.ready else LoopState.done, pending := none } : Loop) = r := by
          obtain ⟨r1, r2⟩ := HR.out
          cases r
          simp at r1 r2
          subst r1 r2
          rfl
        rw [hrr] at hend
        refine ⟨_, _, hend, rfl, ?_⟩
        rw [HPI.out]
        exact HOO.out.put r
    · have hlt' : ¬ (k : Int) < (keys.length : Int) := by omega
      obtain rfl : k = keys.length := by omega
      have q1 := blk_cell HM.out.box 0 _ rfl
      have q2 := blk_cell HM.out.box 1 _ rfl
      have q3 := blk_cell HM.out.res 0 _ rfl
      have q4 := blk_cell HM.out.res 1 _ rfl
      have q5 := blk_frozen HM.out.res 0
      have q6 := blk_frozen HM.out.res 1
      have HH := HM.out
      rw [List.take_length] at HH
      clear H0 HM
      have HHH : Hid (MkW w K n (makeL keys K n) ds W) := HH
      clear HH
      gi_wp2
      have g2 := set2_grownB W w.heap.size (.int .i64 K) (.slice (some ⟨w.heap.size + 1, 0, none⟩) n n)
      have b2 := set2_blkB HHH.out.res (.int .i64 K) (.slice (some ⟨w.heap.size + 1, 0, none⟩) n n)
      have hnd : ∀ j, j < w.heap.size + 3 → j ∉ ds := fun j hj e => by have := HHH.out.high _ e; omega
      refine leaves_marks ds _ HHH.out.nod (fun b hb => blk_grown (HHH.out.dfr b hb) g2 (fun e => hnd w.heap.size (by omega) (by simp at e; rw [← e]; exact hb))) (fun W' hW' => ?_)
      have b3 := (hW'.block w.heap.size (hnd _ (by omega))).trans b2
      refine ⟨_, results_fil rfl (.inl rfl) _ _ rfl b3, some ⟨w.heap.size + 1, 0, none⟩, n, rfl, own_blk (HHH.out.own.kept g2 (.inr (by simp [Value.ownBlock]))) (hW'.block _ (hnd _ (by omega))), ?_⟩
      have u2 : Below w.heap.size w (set2 W w.heap.size (.int .i64 K) (.slice (some ⟨w.heap.size + 1, 0, none⟩) n n)) := HHH.out.below.grown g2 HHH.out.below.size (fun j hj => by simp at hj; omega)
      exact u2.trans (hW'.grown (fun b hb => by have := HHH.out.high b hb; omega))
end Go.Proofs.YthiegmhplnbdlaaGreat





namespace Go.Proofs.YthiegmhplnbdlaaGreat
open Go.RowKit
set_option linter.unusedVariables false
set_option maxRecDepth 20000
def errM (each : Int) (m : Nat) : Int := if each < 1 ∨ 16 < each then 4 else if 4096 < m then 3 else 0
def makeR (keys : List (List Int)) (each : Int) : Int × List Int := if errM each keys.length = 0 then ((kOf each.toNat : Nat), makeL keys (kOf each.toNat) (nOf keys.length each.toNat)) else (0, [])
theorem putI_len (h : Int) (n : Nat) : ∀ (i : Nat) (l : List Int), (putI h n i l).length = l.length
  | 0, l => rfl
  | i + 1, l => by rw [putI_succ, putL_len, putI_len h n i l]
theorem putI_oct (h : Int) (n : Nat) : ∀ (i : Nat) (l : List Int), OctL l → OctL (putI h n i l)
  | 0, l, hl => hl
  | i + 1, l, hl => by rw [putI_succ]; exact putL_oct (putI_oct h n i l hl) _
theorem zeros_oct (n : Nat) : OctL (List.replicate n 0) := by
  intro x hx
  simp at hx
  omega
theorem make_fold (K n : Nat) : ∀ (keys : List (List Int)) (l : List Int), OctL l → l.length = n → (keys.foldl (fun l key => putI (hashL key) n K l) l).length = n ∧ OctL (keys.foldl (fun l key => putI (hashL key) n K l) l)
  | [], l, hl, hn => ⟨hn, hl⟩
  | k :: r, l, hl, hn => make_fold K n r _ (putI_oct _ _ _ _ hl) (by rw [putI_len]; exact hn)
theorem makeL_len (keys : List (List Int)) (K n : Nat) : (makeL keys K n).length = n := (make_fold K n keys _ (zeros_oct n) (by simp)).1
theorem makeL_oct (keys : List (List Int)) (K n : Nat) : OctL (makeL keys K n) := (make_fold K n keys _ (zeros_oct n) (by simp)).2
theorem makeR_oct (keys : List (List Int)) (each : Int) : OctL (makeR keys each).2 := by
  unfold makeR
  split
  · exact makeL_oct _ _ _
  · intro x hx; cases hx
set_option maxHeartbeats 1000000 in
theorem make_any (keys : List (List Int)) (hk : KeyL keys) (each : Int) (v : Value) (w : World) (hv : TextsW w v keys) :
    Calls Tryz.prog 67 #[v, .int .i64 each] w fun e w' => ∃ a n c, e = .returned (.tuple #[.agg #[.int .i64 (makeR keys each).1, .slice a n c], .int .i64 (errM each keys.length)]) ∧ n = (makeR keys each).2.length ∧ OwnB w' w.heap.size (.slice a n c) (makeR keys each).2 ∧ Below w.heap.size w w' := by
  by_cases c1 : each < 1 ∨ 16 < each
  · have he : errM each keys.length = 4 := by unfold errM; rw [if_pos c1]
    have hr : makeR keys each = (0, []) := by unfold makeR; rw [if_neg (by rw [he]; decide)]
    rw [he, hr]
    obtain ⟨a, c, rfl, hc, hmx⟩ := hv.len
    clear hv he hr
    go_enter Tryz.func67, Tryz.ntmps67
    rcases c1 with c1 | c1
    · go_wp2
      refine bodyPost_ret (results_fil rfl (.inl rfl) _ _ rfl (blk_new _ _)) rfl ?_
      exact ⟨none, 0, 0, rfl, rfl, OwnB.nil _ _, up_alloc _ _⟩
    · have c0 : ¬ each < 1 := by omega
      go_wp2
      refine bodyPost_ret (results_fil rfl (.inl rfl) _ _ rfl (blk_new _ _)) rfl ?_
      exact ⟨none, 0, 0, rfl, rfl, OwnB.nil _ _, up_alloc _ _⟩
  · by_cases c2 : 4096 < keys.length
    · have he : errM each keys.length = 3 := by unfold errM; rw [if_neg c1, if_pos c2]
      have hr : makeR keys each = (0, []) := by unfold makeR; rw [if_neg (by rw [he]; decide)]
      rw [he, hr]
      obtain ⟨a, c, rfl, hc, hmx⟩ := hv.len
      clear hv he hr
      have c3 : ¬ each < 1 := by omega
      have c4 : ¬ 16 < each := by omega
      have c2' : (4096 : Int) < (keys.length : Int) := by omega
      clear c1
      go_enter Tryz.func67, Tryz.ntmps67
      go_wp2
      refine bodyPost_ret (results_fil rfl (.inl rfl) _ _ rfl (blk_new _ _)) rfl ?_
      exact ⟨none, 0, 0, rfl, rfl, OwnB.nil _ _, up_alloc _ _⟩
    · have he : errM each keys.length = 0 := by unfold errM; rw [if_neg c1, if_neg c2]
      have hr : makeR keys each = (((kOf each.toNat : Nat) : Int), makeL keys (kOf each.toNat) (nOf keys.length each.toNat)) := by unfold makeR; rw [if_pos he]
      rw [he, hr]
      obtain ⟨m, rfl⟩ : ∃ m : Nat, each = (m : Int) := ⟨each.toNat, by omega⟩
      simp only [Int.toNat_natCast]
      refine (make_good keys hk (by omega) m (by omega) (by omega) v w hv).mono ?_
      rintro e w' ⟨a, c, rfl, ho, hb⟩
      exact ⟨a, _, c, rfl, by rw [makeL_len], ho, hb⟩
end Go.Proofs.YthiegmhplnbdlaaGreat

namespace Go.Proofs.YthiegmhplnbdlaaGreat
open Go.RowKit
set_option linter.unusedVariables false
set_option maxRecDepth 20000
def encL (k : Int) (l : List Int) : List Int := if mayB k l.length then k :: l else []
theorem may_le {k : Int} {n : Nat} (h : mayB k n = true) : 1 ≤ k ∧ k ≤ 8 ∧ 1 ≤ n ∧ n ≤ 8192 := by
  unfold mayB at h
  simp at h
  exact h
theorem own_one (w : World) (x : Int) {base N : Nat} (hb : base ≤ w.heap.size) (hN : w.heap.size = N) : OwnB (w.alloc (.cells #[.int .u8 x] 5)) base (.slice (some ⟨N, 0, none⟩) 1 1) [x] := by
  subst hN
  exact World.ownsRow_lit (base := base) (e := 5) (size := 1) w #[.int .u8 x] 1 hb (by unfold maxLen; omega) rfl
set_option maxHeartbeats 1000000 in
theorem encode_any (k : Int) (l : List Int) (a : Option Addr) (c : Nat) (w : World) (hv : Octs w (.slice a l.length c) l) :
    Calls Tryz.prog 69 #[.agg #[.int .i64 k, .slice a l.length c]] w fun e w' => ∃ a' n' c', e = .returned (.tuple #[.slice a' n' c', .int .i64 (chkE k l.length)]) ∧ n' = (encL k l).length ∧ OwnB w' w.heap.size (.slice a' n' c') (encL k l) ∧ Below w.heap.size w w' := by
  have HX : encL k l = if mayB k l.length then k :: l else [] := rfl
  have HE : chkE k l.length = if mayB k l.length then 0 else 9 := rfl
  have HM : Hid (∀ w : World, Calls Tryz.prog 48 #[.agg #[.int .i64 k, .slice a l.length c]] w fun e w' => e = .returned (.bool (mayB k l.length)) ∧ w' = w.alloc (.cells #[.int .i64 k, .slice a l.length c] 57)) := fun w => mayBe_any k a _ c w
  cases hmay : mayB k l.length
  · rw [hmay] at HX HE HM
    simp at HX HE
    rw [HX, HE]
    clear HX HE
    go_enter Tryz.func69, Tryz.ntmps69
    go_wp2_with fail
    refine (HM.out _).mono ?_
    rintro e w1 ⟨rfl, rfl⟩
    go_wp2
    go_ret2
    exact ⟨none, 0, 0, rfl, rfl, OwnB.nil _ _, up_al (up_alloc _ _) _⟩
  · obtain ⟨k1, k2, n1, n2⟩ := may_le hmay
    rw [hmay] at HX HE HM
    simp at HX HE
    rw [HX, HE]
    clear HX HE
    have HO : Hid (Octs (((w.alloc (.cells #[.int .i64 k, .slice a l.length c] 57)).alloc (.cells #[.int .i64 k, .slice a l.length c] 57)).alloc (.cells #[.int .u8 k] 5)) (.slice a l.length c) l) := hv.up (up_al (up_al (up_alloc _ _) _) _)
    have HW : Hid (OwnB (((w.alloc (.cells #[.int .i64 k, .slice a l.length c] 57)).alloc (.cells #[.int .i64 k, .slice a l.length c] 57)).alloc (.cells #[.int .u8 k] 5)) w.heap.size (.slice (some ⟨w.heap.size + 1 + 1, 0, none⟩) 1 1) [k]) := own_one _ _ (by simp; omega) (by simp)
    have hm8 : k % 256 = k := by omega
    have HOX : Hid (OctL l) := hv.1
    clear hv
    go_enter Tryz.func69, Tryz.ntmps69
    go_wp2_with fail
    refine (HM.out _).mono ?_
    rintro e w1 ⟨rfl, rfl⟩
    go_wp2_with (at_builtin; refine wpList_append_octs _ rfl _ _ rfl w.heap.size _ [k] rfl HW.out _ l rfl HO.out ?c1 ?c2 ?_)
    case c1 => simp; omega
    case c2 => simp; omega
    intro v' w' hown hg
    obtain ⟨a', nq, c', rfl, hq⟩ := own_shape hown
    have HOW : Hid (OwnB w' w.heap.size (.slice a' nq c') ([k] ++ l)) := hown
    have HB : Hid (Below w.heap.size w w') := (up_al (up_al (up_alloc w (.cells #[.int .i64 k, .slice a l.length c] 57)) (.cells #[.int .i64 k, .slice a l.length c] 57)) (.cells #[.int .u8 k] 5)).grown hg (by simp; omega) (fun j hj => by simp [Value.ownBlock] at hj; omega)
    clear hown hg HO HW HM
    go_wp2
    go_ret2
    exact ⟨a', nq, c', rfl, hq.out, HOW.out, HB.out⟩
end Go.Proofs.YthiegmhplnbdlaaGreat

namespace Go.Proofs.YthiegmhplnbdlaaGreat
open Go.RowKit
set_option linter.unusedVariables false
set_option maxRecDepth 20000
theorem Octs.rest {w : World} {b off n cap : Nat} {l : List Int} (h : Octs w (.slice (some ⟨b, off, none⟩) n cap) l) (hn : 1 ≤ l.length) (hl : l.length = n) : Octs w (.slice (some ⟨b, off + 1, none⟩) (n - 1) (cap - 1)) (l.drop 1) := by
  obtain ⟨hx, h⟩ := h
  refine ⟨fun x hxx => hx x (List.mem_of_mem_drop hxx), ?_⟩
  rcases h with ⟨e, _⟩ | ⟨hne, b', off', cap', e, hc, hm, hj⟩
  · rw [e] at hn; simp at hn
  · simp at e
    obtain ⟨⟨rfl, rfl⟩, e2, rfl⟩ := e
    by_cases h1 : l.length = 1
    · have e1 : n - 1 = 0 := by omega
      rw [e1]
      exact .inl ⟨by rw [List.drop_eq_nil_iff]; omega, _, _, rfl, fun h => by cases h⟩
    · refine .inr ⟨?_, b, off + 1, cap - 1, ?_, ?_, by omega, ?_⟩
      · intro e
        rw [List.drop_eq_nil_iff] at e
        omega
      · rw [List.length_drop, hl]
      · rw [List.length_drop]; omega
      · intro j x hjx
        rw [List.getElem?_drop] at hjx
        have := hj (1 + j) x hjx
        rw [show off + 1 + j = off + (1 + j) by omega]
        exact this
end Go.Proofs.YthiegmhplnbdlaaGreat
