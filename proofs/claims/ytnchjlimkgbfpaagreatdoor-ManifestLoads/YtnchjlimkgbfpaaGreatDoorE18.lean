/- The texts AWo, AApM, in this order. -/
import Derived.Test.YtnchjlimkgbfpaaGreatDoorE17

namespace Go.Proofs.YtnchjlimkgbfpaaGreatDoor
open Go.RowKit
set_option linter.unusedVariables false
set_option maxRecDepth 20000
set_option linter.unusedSimpArgs false
def dropIds : List Int → List Int → Option (List Int)
  | [], s => some s
  | i :: r, s => if s.contains i then dropIds r (s.erase i) else none
def keepM (s : List Int) (m : Me) : Bool := s.contains m.id
theorem drops_eq (ts : List Me) (hn : (ts.map Me.id).Nodup) : ∀ (d s : List Int), s.Nodup → (∀ i ∈ s, i ∈ ts.map Me.id) → dropsM d (ts.filter (keepM s)) = (dropIds d s).map (fun s' => ts.filter (keepM s'))
  | [], s, _, _ => rfl
  | i :: r, s, hs, hi => by
    rw [dropsM, dropIds]
    by_cases q : i ∈ s
    · have q2 : s.contains i = true := by simpa using q
      rw [if_pos q2]
      have e : dropM i (ts.filter (keepM s)) = ts.filter (keepM (s.erase i)) := by
        unfold dropM
        rw [List.filter_filter]
        refine List.filter_congr (fun m hm => ?_)
        unfold keepM
        rw [Bool.eq_iff_iff]
        simp [hs.mem_erase_iff]
      rw [e]
      have hlt : (ts.filter (keepM (s.erase i))).length < (ts.filter (keepM s)).length := by
        rw [← e]
        unfold dropM
        obtain ⟨m, hm, hid⟩ := List.mem_map.1 (hi i q)
        have hm2 : m ∈ ts.filter (keepM s) := by
          rw [List.mem_filter]
          exact ⟨hm, by unfold keepM; rw [hid]; exact q2⟩
        have h1 := List.length_filter_le (fun m : Me => decide (m.id ≠ i)) (ts.filter (keepM s))
        rcases Nat.lt_or_ge ((ts.filter (keepM s)).filter (fun m : Me => decide (m.id ≠ i))).length (ts.filter (keepM s)).length with h | h
        · exact h
        · have h2 := List.filter_eq_self.1 (List.filter_sublist.eq_of_length_le (l₁ := (ts.filter (keepM s)).filter (fun m : Me => decide (m.id ≠ i))) (l₂ := ts.filter (keepM s)) (by omega)) m hm2
          simp [hid] at h2
      rw [if_neg (by omega)]
      exact drops_eq ts hn r (s.erase i) (hs.erase i) (fun j hj => hi j (List.mem_of_mem_erase hj))
    · have q2 : ¬ s.contains i = true := by simpa using q
      rw [if_neg q2, if_pos]
      · rfl
      · have : dropM i (ts.filter (keepM s)) = ts.filter (keepM s) := by
          unfold dropM
          rw [List.filter_eq_self]
          intro m hm
          rw [List.mem_filter] at hm
          have : m.id ∈ s := by simpa [keepM] using hm.2
          simp
          intro e
          rw [e] at this
          exact q this
        rw [this]
theorem drops_ids (ts : List Me) (hn : (ts.map Me.id).Nodup) (d : List Int) : dropsM d ts = (dropIds d (idsM ts)).map (fun s' => ts.filter (keepM s')) := by
  have h := drops_eq ts hn d (idsM ts) (idsM_nodup ts) (fun i hi => by
    obtain ⟨m, hm, e⟩ := (idsM_mem ts i).1 hi
    exact List.mem_map.2 ⟨m, hm, e⟩)
  have e : ts.filter (keepM (idsM ts)) = ts := by
    rw [List.filter_eq_self]
    intro m hm
    unfold keepM
    have := (idsM_mem ts m.id).2 ⟨m, hm, rfl⟩
    simpa using this
  rw [e] at h
  exact h
theorem dropIds_at (d : List Int) (k : Nat) (i : Int) (s : List Int) (h : d[k]? = some i) : dropIds (d.drop k) s = if s.contains i then dropIds (d.drop (k + 1)) (s.erase i) else none := by
  rw [List.drop_eq_getElem_cons (List.getElem?_eq_some_iff.1 h).1, (List.getElem?_eq_some_iff.1 h).2, dropIds]
theorem IntsR.elt {w : World} {v : Value} {l : List Int} (h : IntsR w v l) (k : Nat) (hk : k < l.length) : ∃ b off cap n, v = .slice (some ⟨b, off, none⟩) l.length cap ∧ l[k]? = some n ∧ w.cell? ⟨b, off + k, none⟩ = some (.int .i64 n) := by
  obtain ⟨b, off, cap, e, _, _, hc⟩ := Rws.at h k (by simpa using hk)
  simp only [List.length_map] at e
  have hg : (l.map irow).getD k [] = irow l[k] := by simp [List.getD, hk]
  rw [hg] at hc
  exact ⟨b, off, cap, l[k], e, by simp [hk], by simpa using hc 0 _ rfl⟩
theorem set_del_run {w : World} {b : Nat} {ids : List Int} (hs : SetWE w b ids) (hnd : ids.Nodup) (id : Int) (hid : In64 id) (ty : TypeId) :
    ∃ w', (Builtin.delete_ #[233, 3] ty #[.map (some b), .int .i64 id]).run Tryz.prog w = .ok (.tuple #[]) w' ∧ SetWE w' b (ids.erase id) ∧ w.mapTurned w' b := by
  obtain ⟨D, h1, h2, h3, h4⟩ := hs
  obtain ⟨w', hrun, r1, r2⟩ := h1.drop (Maps.int_keyed Tryz.underlying3) Tryz.underlying233 (Maps.keyOf_int_mk Tryz.underlying3 (wf_i64_of hid)) ty
  exact ⟨w', hrun, KeyW.del hnd h2 h3 h4 r1, r2⟩
def WoE (w : World) (ts : List Me) (r : Option (List Int)) (e : Ending) (w' : World) : Prop :=
  match r with
  | none => e = .returned (.tuple #[.slice none 0 0, .bool false])
  | some s => ∃ a n c, e = .returned (.tuple #[.slice a n c, .bool true]) ∧ OwnR w' w.heap.size 148 5 (.slice a n c) ((ts.filter (keepM s)).map meRow)
set_option maxHeartbeats 4000000 in
set_option maxRecDepth 100000 in
theorem without_any (ts : List Me) (drop : List Int) (v u : Value) (w : World) (hv : MetsR w v ts) (hu : IntsR w u drop) (hl : ts.length ≤ 256) (hi : ∀ m ∈ ts, In64 m.id) (hd : ∀ i ∈ drop, In64 i) :
    Calls Tryz.prog 175 #[v, u] w fun e w' => WoE w ts (dropIds drop (idsM ts)) e w' ∧ Hid (Below w.heap.size w w') := by
  have HV : Hid (MetsR w v ts) := hv
  have HUD : Hid (IntsR w u drop) := hu
  have HI : Hid (∀ m ∈ ts, In64 m.id) := hi
  have HD : Hid (∀ i ∈ drop, In64 i) := hd
  obtain ⟨a1, c1, rfl, g1, m1⟩ := hv.len
  obtain ⟨a2, c2, rfl, g2, m2⟩ := hu.len
  have hd63 : drop.length ≤ 9223372036854775807 := by unfold maxLen at m2; omega
  clear hv hu hi hd g1 m1 g2 m2
  have S1 : Hid (SetWE ((w.alloc (.map #[] 0)).alloc (.cells #[.map (some w.heap.size)] 233)) w.heap.size (idsM (ts.take 0))) := KeyW.up (KeyW.made _ w) (up_alloc _ _)
  have U1 : Hid (Below w.heap.size w ((w.alloc (.map #[] 0)).alloc (.cells #[.map (some w.heap.size)] 233))) := up_al (up_alloc _ _) _
  have B1 : Hid (((w.alloc (.map #[] 0)).alloc (.cells #[.map (some w.heap.size)] 233)).heap[w.heap.size + 1]? = some (.cells #[.map (some w.heap.size)] 233)) := by
    have := blk_new (w.alloc (.map #[] 0)) (.cells #[.map (some w.heap.size)] 233)
    rw [show (w.alloc (.map #[] 0)).heap.size = w.heap.size + 1 by simp] at this
    exact this
  have HNE : Hid (w.heap.size + 1 ≠ w.heap.size) := by unfold Hid; omega
  have HRES : Hid (∀ (e : Ending) (w' : World), WoE w ts (dropIds drop (idsM ts)) e w' → Below w.heap.size w w' → WoE w ts (dropIds drop (idsM ts)) e w' ∧ Hid (Below w.heap.size w w')) := fun e w' h1 h2 => ⟨h1, h2⟩
  obtain ⟨Post, hP⟩ : ∃ Post : Ending → World → Prop, Post = fun e w' => WoE w ts (dropIds drop (idsM ts)) e w' ∧ Hid (Below w.heap.size w w') := ⟨_, rfl⟩
  have HP : Hid (∀ e w', WoE w ts (dropIds drop (idsM ts)) e w' → Below w.heap.size w w' → Post e w') := fun e w' h1 h2 => by rw [hP]; exact ⟨h1, h2⟩
  rw [← hP]
  clear hP HRES
  have hmm := @run_makeMap Tryz.prog
  go_enter Tryz.func175, Tryz.ntmps175
  go_wp2_with fail
  generalize hNV : w.heap.size + 1 = NV at *
  have HNV : Hid (w.heap.size + 1 = NV) := hNV
  clear hNV
  go_loopw [16] (fun i wr => ∃ k : Nat, k ≤ ts.length ∧ i = .int .i64 k ∧ Hid (SetWE wr w.heap.size (idsM (ts.take k))) ∧ Hid (wr.heap[NV]? = some (.cells #[.map (some w.heap.size)] 233)) ∧ Hid (Below w.heap.size w wr)) (fun i _ => ts.length - (intOf i).toNat)
  case atStart => exact ⟨0, Nat.zero_le _, rfl, S1, B1, U1⟩
  case round =>
    clear S1 U1 B1
    obtain ⟨k, hk, rfl, HS, HB, HU⟩ := hrel
    by_cases hlt : k < ts.length
    · have hlt' : (k : Int) < (ts.length : Int) := by omega
      obtain ⟨b, off, cap, m, e, hm, z0, z1, z2, z3, z4⟩ := (HV.out.up HU.out).at k hlt
      simp at e
      obtain ⟨rfl, rfl⟩ := e
      have HID : Hid (In64 m.id) := HI.out m (List.mem_of_getElem? hm)
      have HSN : Hid (addId (idsM (ts.take k)) m.id = idsM (ts.take (k + 1))) := by
        rw [List.take_add_one, hm]
        exact (idsM_snoc _ _).symm
      have HSL : Hid ((idsM (ts.take k)).length < maxLen) := by
        have := idsM_len (ts.take k)
        rw [List.length_take] at this
        unfold Hid maxLen
        omega
      have UB : Hid (Below wr.heap.size wr (wr.alloc (meBox m))) := up_alloc _ _
      have BX : Hid (BoxM (wr.alloc (meBox m)) wr.heap.size m) := blk_new _ _
      have HU2 := hid (up_trans HU.out UB.out)
      have HB2 := hid (blk_up HB.out UB.out)
      have HS2 : Hid (SetWE (wr.alloc (meBox m)) w.heap.size (idsM (ts.take k))) := KeyW.up HS.out UB.out
      obtain ⟨w2, hw2⟩ : ∃ w2, w2 = wr.alloc (meBox m) := ⟨_, rfl⟩
      have HW2 : Hid (wr.alloc (.cells #[.int .i64 m.id, .int .i64 m.lvl, .int .i64 m.cnt, .string m.low, .string m.high] 148) = w2) := hw2.symm
      rw [← hw2] at UB BX HU2 HB2 HS2
      clear hw2 hm HS HB HU
      generalize idsM (ts.take k) = ids at *
      go_upto_region 5 with fail
      rw [HW2.out]
      clear HW2 UB z0 z1 z2 z3 z4
      generalize wr.heap.size = NX at *
      obtain ⟨m0, m1, m2, m3, m4⟩ := BX.out.cells
      have q0 := blk_cell HB2.out 0 _ rfl
      go_wp2_with (at_mapUpdate; refine wpList_set_putE _ rfl _ _ _ rfl w.heap.size ids rfl HS2.out HSL.out m.id HID.out rfl rfl ?_; intro W4 hC hT)
      have HF : Hid (SetWE W4 w.heap.size (idsM (ts.take (k + 1))) ∧ W4.heap[NV]? = some (.cells #[.map (some w.heap.size)] 233) ∧ Below w.heap.size w W4) := ⟨by rw [← HSN.out]; exact hC, turned_blk hT HNE.out HB2.out, HU2.out.trans (turned_below hT (Nat.le_refl _) HU2.out.size)⟩
      clear hC hT
      exact ⟨⟨k + 1, by omega, by go_num, HF.out.1, HF.out.2.1, HF.out.2.2⟩, by simp [intOf]; omega⟩
    · have hlt' : ¬ (k : Int) < (ts.length : Int) := by omega
      obtain rfl : k = ts.length := by omega
      rw [List.take_length] at HS
      have HN0 : Hid ((idsM ts).Nodup) := idsM_nodup ts
      have HL0 : Hid (dropIds drop (idsM ts) = dropIds (drop.drop 0) (idsM ts)) := rfl
      go_wp2_with fail
      go_loopw [27] (fun i wr => ∃ (j : Nat) (s : List Int), j ≤ drop.length ∧ i = .int .i64 j ∧ Hid (SetWE wr w.heap.size s) ∧ Hid (s.Nodup) ∧ Hid (dropIds drop (idsM ts) = dropIds (drop.drop j) s) ∧ Hid (wr.heap[NV]? = some (.cells #[.map (some w.heap.size)] 233)) ∧ Hid (Below w.heap.size w wr)) (fun i _ => drop.length - (intOf i).toNat)
      case atStart => exact ⟨0, idsM ts, Nat.zero_le _, rfl, HS, HN0, HL0, HB, HU⟩
      case round =>
        clear HS HN0 HL0 HB HU
        obtain ⟨j, s, hj, rfl, HS, HN, HL, HB, HU⟩ := hrel
        have q0 := blk_cell HB.out 0 _ rfl
        by_cases hjl : j < drop.length
        · have hjl' : (j : Int) < (drop.length : Int) := by omega
          obtain ⟨b, off, cap, x, e, hx, x0⟩ := (HUD.out.up HU.out).elt j hjl
          simp at e
          obtain ⟨rfl, rfl⟩ := e
          have HXI : Hid (In64 x) := HD.out x (List.mem_of_getElem? hx)
          have HAT : Hid (dropIds (drop.drop j) s = if s.contains x then dropIds (drop.drop (j + 1)) (s.erase x) else none) := dropIds_at drop j x s hx
          clear hx
          cases hc : s.contains x
          · have HR : Hid (dropIds drop (idsM ts) = none) := by unfold Hid; rw [HL.out, HAT.out, hc]; rfl
            have HC : Hid (s.contains x = false) := hc
            clear hc
            go_wp2_with (at_lookup; refine wpList_set_has _ rfl _ _ rfl w.heap.size s rfl HS.out x HXI.out rfl ?_; rw [HC.out])
            refine HP.out _ _ ?_ ?_
            · rw [HR.out]; rfl
            · first | exact HU.out | exact up_al HU.out _
          · have HE2 : Hid (dropIds drop (idsM ts) = dropIds (drop.drop (j + 1)) (s.erase x)) := by unfold Hid; rw [HL.out, HAT.out, hc]; rfl
            have HC : Hid (s.contains x = true) := hc
            clear hc
            have HZ : Hid (SetWE (wr.alloc (.cells #[] 131)) w.heap.size s) := KeyW.up HS.out (up_alloc _ _)
            have HB2 := hid (blk_up HB.out (up_alloc wr (.cells #[] 131)))
            have HU2 := hid (up_al HU.out (.cells #[] 131))
            have q2 := blk_cell HB2.out 0 _ rfl
            obtain ⟨W4, hrun, hC, hT⟩ := set_del_run HZ.out HN.out x HXI.out 0
            have HF : Hid (SetWE W4 w.heap.size (s.erase x) ∧ W4.heap[NV]? = some (.cells #[.map (some w.heap.size)] 233) ∧ Below w.heap.size w W4) := ⟨hC, turned_blk hT HNE.out HB2.out, HU2.out.trans (turned_below hT (Nat.le_refl _) HU2.out.size)⟩
            have HN2 : Hid ((s.erase x).Nodup) := HN.out.erase x
            clear hC hT
            go_wp2_with (at_lookup; refine wpList_set_has _ rfl _ _ rfl w.heap.size s rfl HS.out x HXI.out rfl ?_; rw [HC.out])
            exact ⟨⟨j + 1, s.erase x, by omega, by go_num, HF.out.1, HN2, HE2, HF.out.2.1, HF.out.2.2⟩, by simp [intOf]; omega⟩
        · have hjl' : ¬ (j : Int) < (drop.length : Int) := by omega
          obtain rfl : j = drop.length := by omega
          have HR : Hid (dropIds drop (idsM ts) = some s) := by unfold Hid; rw [HL.out, List.drop_length]; rfl
          have HCH : Hid (Calls Tryz.prog 199 #[.slice a1 ts.length c1, .func (.func 200) #[] #[.pointer (some ⟨NV, 0, none⟩)]] wr fun e w' => ∃ a n c, e = .returned (.slice a n c) ∧ Hid (OwnR w' wr.heap.size 148 5 (.slice a n c) ((ts.filter (keepM s)).map meRow)) ∧ Hid (Below wr.heap.size wr w')) := by
            refine chosen48_any (keepM s) NV ts _ wr (HV.out.up HU.out) hl (fun m hm W hW => ?_)
            exact without1_any m NV w.heap.size s W (blk_cell (blk_up HB.out hW) 0 _ rfl) (KeyW.up HS.out hW) (HI.out m hm)
          go_wp2_with (go_at_call 199; refine HCH.out.mono ?_; rintro e w5 ⟨ra, rn, rc, rfl, O5, U5⟩)
          refine HP.out _ _ ?_ (up_trans HU.out U5.out)
          rw [HR.out]
          exact ⟨ra, rn, rc, rfl, O5.out.mono HU.out.size⟩
end Go.Proofs.YtnchjlimkgbfpaaGreatDoor

namespace Go.Proofs.YtnchjlimkgbfpaaGreatDoor
open Go.RowKit
set_option linter.unusedVariables false
set_option maxRecDepth 20000
set_option linter.unusedSimpArgs false
theorem befM_asymm {a b : Me} (h : befM a b = true) : befM b a = false := by
  cases q : befM b a
  · rfl
  · have := befM_trans h q
    rw [befM_irrefl] at this
    cases this
theorem putM_perm (m : Me) : ∀ l, (putM m l).Perm (l ++ [m])
  | [] => .refl _
  | x :: r => by
    rw [putM]
    by_cases h : befM x m = true
    · rw [if_pos h]
      exact (putM_perm m r).cons x
    · rw [if_neg h]
      have : (m :: x :: r).Perm ((x :: r) ++ [m]) := (List.perm_append_singleton m (x :: r)).symm
      exact this
theorem putsM_perm : ∀ (add l : List Me), (putsM add l).Perm (l ++ add)
  | [], l => by simp [putsM]
  | m :: r, l => by
    rw [putsM]
    have h1 := putsM_perm r (putM m l)
    have h2 := (putM_perm m l).append_right r
    refine h1.trans (h2.trans ?_)
    simp
theorem putM_mem (m : Me) (l : List Me) (x : Me) (h : x ∈ putM m l) : x = m ∨ x ∈ l := by
  have := (putM_perm m l).mem_iff.1 h
  simp at this
  exact this.symm
theorem putM_srt (m : Me) : ∀ l, SrtM l → SrtM (putM m l)
  | [], h => by simp [putM, SrtM]
  | x :: r, h => by
    unfold SrtM at *
    rw [List.pairwise_cons] at h
    rw [putM]
    by_cases q : befM x m = true
    · rw [if_pos q, List.pairwise_cons]
      refine ⟨fun y hy => ?_, putM_srt m r h.2⟩
      rcases putM_mem m r y hy with rfl | hy
      · exact befM_asymm q
      · exact h.1 y hy
    · rw [if_neg q, List.pairwise_cons, List.pairwise_cons]
      have q' : befM x m = false := by simpa using q
      refine ⟨fun y hy => ?_, h.1, h.2⟩
      rcases List.mem_cons.1 hy with rfl | hy
      · exact q'
      · exact befM_ntrans y x m (h.1 y hy) q'
theorem putsM_srt : ∀ (add l : List Me), SrtM l → SrtM (putsM add l)
  | [], l, h => h
  | m :: r, l, h => putsM_srt r _ (putM_srt m l h)
theorem chk_pair {next : Int} {ts : List Me} (h : allM next [] ts = true) : ts.Pairwise (fun a b => befM a b = true) := by
  rw [List.pairwise_iff_getElem]
  intro i j hi hj hij
  refine chk_asc h j ts[j] (List.getElem?_eq_getElem hj) ts[i] ?_
  rw [List.mem_take_iff_getElem]
  exact ⟨i, by omega, rfl⟩
theorem chk_srt {next : Int} {ts : List Me} (h : allM next [] ts = true) : SrtM ts := by
  have hp := chk_pair h
  unfold SrtM
  rw [List.pairwise_iff_getElem] at hp ⊢
  intro i j hi hj hij
  exact befM_asymm (hp i j hi hj hij)
theorem srt_unique : ∀ (a b : List Me), a.Perm b → a.Pairwise (fun x y => befM x y = true) → SrtM b → a = b
  | [], b, hp, _, _ => (List.Perm.nil_eq hp)
  | x :: a, b, hp, ha, hb => by
    cases b with
    | nil => exact absurd hp.length_eq (by simp)
    | cons y b =>
      unfold SrtM at hb
      rw [List.pairwise_cons] at ha hb
      have hxy : x = y := by
        have hx : x ∈ y :: b := hp.mem_iff.1 (by simp)
        have hy : y ∈ x :: a := hp.mem_iff.2 (by simp)
        rcases List.mem_cons.1 hx with e | hx
        · exact e
        · rcases List.mem_cons.1 hy with e | hy
          · exact e.symm
          · have h1 := ha.1 y hy
            have h2 := hb.1 x hx
            rw [h1] at h2
            cases h2
      subst hxy
      rw [srt_unique a b (hp.cons_inv) ha.2 hb.2]
theorem errV_cases (ts : List Me) (s n : Int) : errV ts s n = 0 ∨ errV ts s n = 9 := by
  unfold errV
  split
  · exact .inl rfl
  · exact .inr rfl
theorem errV_zero {ts : List Me} {s n : Int} : errV ts s n = 0 ↔ chkV ts s n = true := by
  unfold errV
  constructor
  · intro h
    by_cases q : chkV ts s n = true
    · exact q
    · rw [if_neg q] at h; cases h
  · intro h; rw [if_pos h]
theorem chkV_all {ts : List Me} {s n : Int} (h : chkV ts s n = true) : allM n [] ts = true := by
  unfold chkV at h
  rw [Bool.and_eq_true] at h
  exact h.2
theorem app_same {l l' add : List Me} {s n : Int} (hp : l'.Perm (l ++ add)) (hs : SrtM l') (hl : SrtM l) : errV l' s n = errV (putsM add l) s n ∧ (errV l' s n = 0 → l' = putsM add l) := by
  have hq : l'.Perm (putsM add l) := hp.trans (putsM_perm add l).symm
  have hs2 : SrtM (putsM add l) := putsM_srt add l hl
  rcases errV_cases l' s n with h | h
  · have e := srt_unique l' _ hq (chk_pair (chkV_all (errV_zero.1 h))) hs2
    rw [← e]
    exact ⟨rfl, fun _ => rfl⟩
  · rcases errV_cases (putsM add l) s n with h2 | h2
    · have e := srt_unique _ l' hq.symm (chk_pair (chkV_all (errV_zero.1 h2))) hs
      rw [e] at h2
      rw [h] at h2
      cases h2
    · rw [h, h2]
      exact ⟨rfl, fun q => by cases q⟩
theorem app_bad {ts : List Me} {s n : Int} {d : List Int} {add : List Me} {s' n' : Int} (h : errV ts s n = 9) : appM ts s n d add s' n' = ([], 9) := by
  unfold appM
  have : ¬ chkV ts s n = true := fun q => by rw [errV_zero.2 q] at h; cases h
  rw [if_neg this]
theorem chk_nodup {ts : List Me} {s n : Int} (h : errV ts s n = 0) : (ts.map Me.id).Nodup := ((allM_iff n ts).1 (chkV_all (errV_zero.1 h))).2
theorem chk_len {ts : List Me} {s n : Int} (h : errV ts s n = 0) : ts.length ≤ 256 := by
  have := errV_zero.1 h
  unfold chkV at this
  rw [Bool.and_eq_true, decide_eq_true_eq] at this
  exact this.1.1
theorem chk_may {ts : List Me} {s n : Int} (h : errV ts s n = 0) : ∀ m ∈ ts, mayM m = true := by
  intro m hm
  obtain ⟨k, hk, rfl⟩ := List.getElem_of_mem hm
  have := ((allM_iff n ts).1 (chkV_all (errV_zero.1 h))).1 k _ (List.getElem?_eq_getElem hk)
  unfold headM at this
  rw [Bool.and_eq_true] at this
  exact this.1
theorem may_in64 {m : Me} (h : mayM m = true) : In64 m.id := by
  rw [mayM_eq] at h
  simp only [Bool.and_eq_true, decide_eq_true_eq] at h
  unfold In64; omega
theorem app_none {ts : List Me} {s n : Int} {d : List Int} {add : List Me} {s' n' : Int} (h : errV ts s n = 0) (hd : dropIds d (idsM ts) = none) : appM ts s n d add s' n' = ([], 71) := by
  unfold appM
  rw [if_pos (errV_zero.1 h), drops_ids ts (chk_nodup h), hd]
  rfl
theorem app_low {ts : List Me} {s n : Int} {d : List Int} {add : List Me} {s' n' : Int} {r : List Int} (h : errV ts s n = 0) (hd : dropIds d (idsM ts) = some r) (hr : s' < s ∨ n' < n) : appM ts s n d add s' n' = ([], 4) := by
  unfold appM
  rw [if_pos (errV_zero.1 h), drops_ids ts (chk_nodup h), hd]
  simp only [Option.map_some]
  rw [if_pos hr]
theorem app_last {ts l' : List Me} {s n : Int} {d : List Int} {add : List Me} {s' n' : Int} {r : List Int} (h : errV ts s n = 0) (hd : dropIds d (idsM ts) = some r) (hr : ¬ (s' < s ∨ n' < n)) (hp : l'.Perm (ts.filter (keepM r) ++ add)) (hs : SrtM l') :
    appM ts s n d add s' n' = if errV l' s' n' = 0 then (l', 0) else ([], 9) := by
  have hl : SrtM (ts.filter (keepM r)) := (chk_srt (chkV_all (errV_zero.1 h))).filter _
  obtain ⟨e1, e2⟩ := app_same (s := s') (n := n') hp hs hl
  unfold appM
  rw [if_pos (errV_zero.1 h), drops_ids ts (chk_nodup h), hd]
  simp only [Option.map_some]
  rw [if_neg hr]
  by_cases ha : 256 < add.length
  · rw [if_pos ha, if_neg]
    intro q
    have h1 := chk_len q
    rw [hp.length_eq, List.length_append] at h1
    omega
  · rw [if_neg ha]
    by_cases q : errV l' s' n' = 0
    · rw [if_pos q, e2 q, if_pos]
      rw [← e2 q]
      exact errV_zero.1 q
    · rw [if_neg q, if_neg]
      intro r2
      exact q (by rw [e1]; exact errV_zero.2 r2)
end Go.Proofs.YtnchjlimkgbfpaaGreatDoor
