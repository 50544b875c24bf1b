/- The program's without: the tables but those of some numbers. -/
import Derived.Test.YtbknoplfjfnbcaaAWith
import Derived.Test.YtbknoplfjfnbcaaLInts
namespace Go.Proofs.Ytbknoplfjfnbcaa
open Go.RowKit
set_option linter.unusedVariables false
set_option linter.unusedSimpArgs false

/-- The numbers that are left. -/
def dropIds : List Int → List Int → Option (List Int)
  | [], s => some s
  | i :: r, s => if s.contains i then dropIds r (s.erase i) else none
def keepM (s : List Int) (m : Me) : Bool := s.contains m.id
theorem drops_eq (ts : List Me) (hn : (ts.map Me.id).Nodup) : ∀ (d s : List Int), s.Nodup → (∀ i ∈ s, i ∈ ts.map Me.id) → dropsM d (ts.filter (keepM s)) = (dropIds d s).map (fun s' => ts.filter (keepM s'))
  | [], s, _, _ => rfl
  | i :: r, s, hs, hi => by
    rw [dropsM, dropIds]
    by_cases q : i ∈ s
    · have q2 : s.contains i = true := by simpa using q
      rw [if_pos q2]
      have e : dropM i (ts.filter (keepM s)) = ts.filter (keepM (s.erase i)) := by
        unfold dropM
        rw [List.filter_filter]
        refine List.filter_congr (fun m hm => ?_)
        unfold keepM
        rw [Bool.eq_iff_iff]
        simp [hs.mem_erase_iff]
      rw [e]
      have hlt : (ts.filter (keepM (s.erase i))).length < (ts.filter (keepM s)).length := by
        rw [← e]
        unfold dropM
        obtain ⟨m, hm, hid⟩ := List.mem_map.1 (hi i q)
        have hm2 : m ∈ ts.filter (keepM s) := by
          rw [List.mem_filter]
          exact ⟨hm, by unfold keepM; rw [hid]; exact q2⟩
        have h1 := List.length_filter_le (fun m : Me => decide (m.id ≠ i)) (ts.filter (keepM s))
        rcases Nat.lt_or_ge ((ts.filter (keepM s)).filter (fun m : Me => decide (m.id ≠ i))).length (ts.filter (keepM s)).length with h | h
        · exact h
        · have h2 := List.filter_eq_self.1 (List.filter_sublist.eq_of_length_le (l₁ := (ts.filter (keepM s)).filter (fun m : Me => decide (m.id ≠ i))) (l₂ := ts.filter (keepM s)) (by omega)) m hm2
          simp [hid] at h2
      rw [if_neg (by omega)]
      exact drops_eq ts hn r (s.erase i) (hs.erase i) (fun j hj => hi j (List.mem_of_mem_erase hj))
    · have q2 : ¬ s.contains i = true := by simpa using q
      rw [if_neg q2, if_pos]
      · rfl
      · have : dropM i (ts.filter (keepM s)) = ts.filter (keepM s) := by
          unfold dropM
          rw [List.filter_eq_self]
          intro m hm
          rw [List.mem_filter] at hm
          have : m.id ∈ s := by simpa [keepM] using hm.2
          simp
          intro e
          rw [e] at this
          exact q this
        rw [this]
theorem drops_ids (ts : List Me) (hn : (ts.map Me.id).Nodup) (d : List Int) : dropsM d ts = (dropIds d (idsM ts)).map (fun s' => ts.filter (keepM s')) := by
  have h := drops_eq ts hn d (idsM ts) (idsM_nodup ts) (fun i hi => by
    obtain ⟨m, hm, e⟩ := (idsM_mem ts i).1 hi
    exact List.mem_map.2 ⟨m, hm, e⟩)
  have e : ts.filter (keepM (idsM ts)) = ts := by
    rw [List.filter_eq_self]
    intro m hm
    unfold keepM
    have := (idsM_mem ts m.id).2 ⟨m, hm, rfl⟩
    simpa using this
  rw [e] at h
  exact h
theorem dropIds_at (d : List Int) (k : Nat) (i : Int) (s : List Int) (h : d[k]? = some i) : dropIds (d.drop k) s = if s.contains i then dropIds (d.drop (k + 1)) (s.erase i) else none := by
  rw [List.drop_eq_getElem_cons (List.getElem?_eq_some_iff.1 h).1, (List.getElem?_eq_some_iff.1 h).2, dropIds]
theorem IntsR.elt {w : World} {v : Value} {l : List Int} (h : IntsR w v l) (k : Nat) (hk : k < l.length) : ∃ b off cap n, v = .slice (some ⟨b, off, none⟩) l.length cap ∧ l[k]? = some n ∧ w.cell? ⟨b, off + k, none⟩ = some (.int .i64 n) := by
  obtain ⟨b, off, cap, e, _, _, hc⟩ := Rws.at h k (by simpa using hk)
  simp only [List.length_map] at e
  have hg : (l.map irow).getD k [] = irow l[k] := by simp [List.getD, hk]
  rw [hg] at hc
  exact ⟨b, off, cap, l[k], e, by simp [hk], by simpa using hc 0 _ rfl⟩

theorem set_del_run {w : World} {b : Nat} {ids : List Int} (hs : SetW w b ids) (hnd : ids.Nodup) (id : Int) (hid : In64 id) (ty : TypeId) :
    ∃ w', (Builtin.delete_ #[94, 3] ty #[.map (some b), .int .i64 id]).run Try.prog w = .ok (.tuple #[]) w' ∧ SetW w' b (ids.erase id) ∧ w.mapTurned w' b := by
  obtain ⟨D, h1, h2, h3, h4⟩ := hs
  obtain ⟨w', hrun, r1, r2⟩ := h1.drop (Maps.int_keyed Try.underlying3) Try.underlying94 (Maps.keyOf_int_mk Try.underlying3 (wf_i64_of hid)) ty
  exact ⟨w', hrun, KeyW.del hnd h2 h3 h4 r1, r2⟩
/-- What without answers. -/
def WoE (w : World) (ts : List Me) (r : Option (List Int)) (e : Ending) (w' : World) : Prop :=
  match r with
  | none => e = .returned (.tuple #[.slice none 0 0, .bool false])
  | some s => ∃ a n c, e = .returned (.tuple #[.slice a n c, .bool true]) ∧ OwnR w' w.heap.size 65 5 (.slice a n c) ((ts.filter (keepM s)).map meRow)

set_option maxHeartbeats 4000000 in
set_option maxRecDepth 100000 in
theorem without_any (ts : List Me) (drop : List Int) (v u : Value) (w : World) (hv : MetsR w v ts) (hu : IntsR w u drop) (hl : ts.length ≤ 256) (hi : ∀ m ∈ ts, In64 m.id) (hd : ∀ i ∈ drop, In64 i) :
    Calls Try.prog 29 #[v, u] w fun e w' => WoE w ts (dropIds drop (idsM ts)) e w' ∧ Hid (Below w.heap.size w w') := by
  have HV : Hid (MetsR w v ts) := hv
  have HUD : Hid (IntsR w u drop) := hu
  have HI : Hid (∀ m ∈ ts, In64 m.id) := hi
  have HD : Hid (∀ i ∈ drop, In64 i) := hd
  obtain ⟨a1, c1, rfl, g1, m1⟩ := hv.len
  obtain ⟨a2, c2, rfl, g2, m2⟩ := hu.len
  have hd63 : drop.length ≤ 9223372036854775807 := by unfold maxLen at m2; omega
  clear hv hu hi hd g1 m1 g2 m2
  have S1 : Hid (SetW ((w.alloc (.map #[] 0)).alloc (.cells #[.map (some w.heap.size)] 94)) w.heap.size (idsM (ts.take 0))) := KeyW.up (KeyW.made _ w) (up_alloc _ _)
  have U1 : Hid (Below w.heap.size w ((w.alloc (.map #[] 0)).alloc (.cells #[.map (some w.heap.size)] 94))) := up_al (up_alloc _ _) _
  have B1 : Hid (((w.alloc (.map #[] 0)).alloc (.cells #[.map (some w.heap.size)] 94)).heap[w.heap.size + 1]? = some (.cells #[.map (some w.heap.size)] 94)) := by
    have := blk_new (w.alloc (.map #[] 0)) (.cells #[.map (some w.heap.size)] 94)
    rw [show (w.alloc (.map #[] 0)).heap.size = w.heap.size + 1 by simp] at this
    exact this
  have HNE : Hid (w.heap.size + 1 ≠ w.heap.size) := by unfold Hid; omega
  have HRES : Hid (∀ (e : Ending) (w' : World), WoE w ts (dropIds drop (idsM ts)) e w' → Below w.heap.size w w' → WoE w ts (dropIds drop (idsM ts)) e w' ∧ Hid (Below w.heap.size w w')) := fun e w' h1 h2 => ⟨h1, h2⟩
  obtain ⟨Post, hP⟩ : ∃ Post : Ending → World → Prop, Post = fun e w' => WoE w ts (dropIds drop (idsM ts)) e w' ∧ Hid (Below w.heap.size w w') := ⟨_, rfl⟩
  have HP : Hid (∀ e w', WoE w ts (dropIds drop (idsM ts)) e w' → Below w.heap.size w w' → Post e w') := fun e w' h1 h2 => by rw [hP]; exact ⟨h1, h2⟩
  rw [← hP]
  clear hP HRES
  have hmm := @run_makeMap Try.prog
  go_enter Try.func29, Try.ntmps29
  go_wp2_with fail
  generalize hNV : w.heap.size + 1 = NV at *
  have HNV : Hid (w.heap.size + 1 = NV) := hNV
  clear hNV
  go_loopw [16] (fun i wr => ∃ k : Nat, k ≤ ts.length ∧ i = .int .i64 k ∧ Hid (SetW wr w.heap.size (idsM (ts.take k))) ∧ Hid (wr.heap[NV]? = some (.cells #[.map (some w.heap.size)] 94)) ∧ Hid (Below w.heap.size w wr)) (fun i _ => ts.length - (intOf i).toNat)
  case atStart => exact ⟨0, Nat.zero_le _, rfl, S1, B1, U1⟩
  case round =>
    clear S1 U1 B1
    obtain ⟨k, hk, rfl, HS, HB, HU⟩ := hrel
    by_cases hlt : k < ts.length
    · have hlt' : (k : Int) < (ts.length : Int) := by omega
      obtain ⟨b, off, cap, m, e, hm, z0, z1, z2, z3, z4⟩ := (HV.out.up HU.out).at k hlt
      simp at e
      obtain ⟨rfl, rfl⟩ := e
      have HID : Hid (In64 m.id) := HI.out m (List.mem_of_getElem? hm)
      have HSN : Hid (addId (idsM (ts.take k)) m.id = idsM (ts.take (k + 1))) := by
        rw [List.take_add_one, hm]
        exact (idsM_snoc _ _).symm
      have HSL : Hid ((idsM (ts.take k)).length < maxLen) := by
        have := idsM_len (ts.take k)
        rw [List.length_take] at this
        unfold Hid maxLen
        omega
      have UB : Hid (Below wr.heap.size wr (wr.alloc (meBox m))) := up_alloc _ _
      have BX : Hid (BoxM (wr.alloc (meBox m)) wr.heap.size m) := blk_new _ _
      have HU2 := hid (up_trans HU.out UB.out)
      have HB2 := hid (blk_up HB.out UB.out)
      have HS2 : Hid (SetW (wr.alloc (meBox m)) w.heap.size (idsM (ts.take k))) := KeyW.up HS.out UB.out
      obtain ⟨w2, hw2⟩ : ∃ w2, w2 = wr.alloc (meBox m) := ⟨_, rfl⟩
      have HW2 : Hid (wr.alloc (.cells #[.int .i64 m.id, .int .i64 m.lvl, .int .i64 m.cnt, .string m.low, .string m.high] 65) = w2) := hw2.symm
      rw [← hw2] at UB BX HU2 HB2 HS2
      clear hw2 hm HS HB HU
      generalize idsM (ts.take k) = ids at *
      go_upto_region 5 with fail
      rw [HW2.out]
      clear HW2 UB z0 z1 z2 z3 z4
      generalize wr.heap.size = NX at *
      obtain ⟨m0, m1, m2, m3, m4⟩ := BX.out.cells
      have q0 := blk_cell HB2.out 0 _ rfl
      go_wp2_with (at_mapUpdate; refine wpList_set_put _ rfl _ _ _ rfl w.heap.size ids rfl HS2.out HSL.out m.id HID.out rfl rfl ?_; intro W4 hC hT)
      have HF : Hid (SetW W4 w.heap.size (idsM (ts.take (k + 1))) ∧ W4.heap[NV]? = some (.cells #[.map (some w.heap.size)] 94) ∧ Below w.heap.size w W4) := ⟨by rw [← HSN.out]; exact hC, turned_blk hT HNE.out HB2.out, HU2.out.trans (turned_below hT (Nat.le_refl _) HU2.out.size)⟩
      clear hC hT
      exact ⟨⟨k + 1, by omega, by go_num, HF.out.1, HF.out.2.1, HF.out.2.2⟩, by simp [intOf]; omega⟩
    · have hlt' : ¬ (k : Int) < (ts.length : Int) := by omega
      obtain rfl : k = ts.length := by omega
      rw [List.take_length] at HS
      have HN0 : Hid ((idsM ts).Nodup) := idsM_nodup ts
      have HL0 : Hid (dropIds drop (idsM ts) = dropIds (drop.drop 0) (idsM ts)) := rfl
      go_wp2_with fail
      go_loopw [27] (fun i wr => ∃ (j : Nat) (s : List Int), j ≤ drop.length ∧ i = .int .i64 j ∧ Hid (SetW wr w.heap.size s) ∧ Hid (s.Nodup) ∧ Hid (dropIds drop (idsM ts) = dropIds (drop.drop j) s) ∧ Hid (wr.heap[NV]? = some (.cells #[.map (some w.heap.size)] 94)) ∧ Hid (Below w.heap.size w wr)) (fun i _ => drop.length - (intOf i).toNat)
      case atStart => exact ⟨0, idsM ts, Nat.zero_le _, rfl, HS, HN0, HL0, HB, HU⟩
      case round =>
        clear HS HN0 HL0 HB HU
        obtain ⟨j, s, hj, rfl, HS, HN, HL, HB, HU⟩ := hrel
        have q0 := blk_cell HB.out 0 _ rfl
        by_cases hjl : j < drop.length
        · have hjl' : (j : Int) < (drop.length : Int) := by omega
          obtain ⟨b, off, cap, x, e, hx, x0⟩ := (HUD.out.up HU.out).elt j hjl
          simp at e
          obtain ⟨rfl, rfl⟩ := e
          have HXI : Hid (In64 x) := HD.out x (List.mem_of_getElem? hx)
          have HAT : Hid (dropIds (drop.drop j) s = if s.contains x then dropIds (drop.drop (j + 1)) (s.erase x) else none) := dropIds_at drop j x s hx
          clear hx
          cases hc : s.contains x
          · have HR : Hid (dropIds drop (idsM ts) = none) := by unfold Hid; rw [HL.out, HAT.out, hc]; rfl
            have HC : Hid (s.contains x = false) := hc
            clear hc
            go_wp2_with (at_lookup; refine wpList_set_has _ rfl _ _ rfl w.heap.size s rfl HS.out x HXI.out rfl ?_; rw [HC.out])
            refine HP.out _ _ ?_ ?_
            · rw [HR.out]; rfl
            · first | exact HU.out | exact up_al HU.out _
          · have HE2 : Hid (dropIds drop (idsM ts) = dropIds (drop.drop (j + 1)) (s.erase x)) := by unfold Hid; rw [HL.out, HAT.out, hc]; rfl
            have HC : Hid (s.contains x = true) := hc
            clear hc
            have HZ : Hid (SetW (wr.alloc (.cells #[] 95)) w.heap.size s) := KeyW.up HS.out (up_alloc _ _)
            have HB2 := hid (blk_up HB.out (up_alloc wr (.cells #[] 95)))
            have HU2 := hid (up_al HU.out (.cells #[] 95))
            have q2 := blk_cell HB2.out 0 _ rfl
            obtain ⟨W4, hrun, hC, hT⟩ := set_del_run HZ.out HN.out x HXI.out 0
            have HF : Hid (SetW W4 w.heap.size (s.erase x) ∧ W4.heap[NV]? = some (.cells #[.map (some w.heap.size)] 94) ∧ Below w.heap.size w W4) := ⟨hC, turned_blk hT HNE.out HB2.out, HU2.out.trans (turned_below hT (Nat.le_refl _) HU2.out.size)⟩
            have HN2 : Hid ((s.erase x).Nodup) := HN.out.erase x
            clear hC hT
            go_wp2_with (at_lookup; refine wpList_set_has _ rfl _ _ rfl w.heap.size s rfl HS.out x HXI.out rfl ?_; rw [HC.out])
            exact ⟨⟨j + 1, s.erase x, by omega, by go_num, HF.out.1, HN2, HE2, HF.out.2.1, HF.out.2.2⟩, by simp [intOf]; omega⟩
        · have hjl' : ¬ (j : Int) < (drop.length : Int) := by omega
          obtain rfl : j = drop.length := by omega
          have HR : Hid (dropIds drop (idsM ts) = some s) := by unfold Hid; rw [HL.out, List.drop_length]; rfl
          have HCH : Hid (Calls Try.prog 34 #[.slice a1 ts.length c1, .func (.func 48) #[] #[.pointer (some ⟨NV, 0, none⟩)]] wr fun e w' => ∃ a n c, e = .returned (.slice a n c) ∧ Hid (OwnR w' wr.heap.size 65 5 (.slice a n c) ((ts.filter (keepM s)).map meRow)) ∧ Hid (Below wr.heap.size wr w')) := by
            refine chosen48_any (keepM s) NV ts _ wr (HV.out.up HU.out) hl (fun m hm W hW => ?_)
            exact without1_any m NV w.heap.size s W (blk_cell (blk_up HB.out hW) 0 _ rfl) (KeyW.up HS.out hW) (HI.out m hm)
          go_wp2_with (go_at_call 34; refine HCH.out.mono ?_; rintro e w5 ⟨ra, rn, rc, rfl, O5, U5⟩)
          refine HP.out _ _ ?_ (up_trans HU.out U5.out)
          rw [HR.out]
          exact ⟨ra, rn, rc, rfl, O5.out.mono HU.out.size⟩
end Go.Proofs.Ytbknoplfjfnbcaa
