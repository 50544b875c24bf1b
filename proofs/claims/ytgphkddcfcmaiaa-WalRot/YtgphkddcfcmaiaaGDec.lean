/- The document's Decode of layer 6. -/
import Derived.Test.YtgphkddcfcmaiaaGText
import Derived.Test.YtgphkddcfcmaiaaWRefChk
import Derived.Test.YtgphkddcfcmaiaaWBat
import Derived.Test.YtgphkddcfcmaiaaWDec3
namespace Go.Proofs.Ytgphkddcfcmaiaa
open Go.RowKit SumPlain
set_option linter.unusedVariables false

/-- In the midst of the document's Decode: its answer's place, its reader, its batch. -/
structure DInv (w wr : World) (X : List Int) (ax : Option Addr) (cx : Nat) (s : Int) (a : Option Addr) (c : Nat) (done : List Chg) (j : Nat) (y : Int) : Prop where
  rq : RQ w wr (w.heap.size + 1) X ax cx j y
  zero : wr.heap[w.heap.size]? = some (.cells #[.int .i64 0, .slice none 0 0] 24)
  box : wr.heap[w.heap.size + 1 + 1]? = some (.cells #[.int .i64 s, .slice a done.length c] 24)
  own : OwnC wr (w.heap.size + 1 + 1 + 1) (.slice a done.length c) done

theorem DInv.upw {w wr w' : World} {X : List Int} {ax : Option Addr} {cx : Nat} {s : Int} {a : Option Addr} {c : Nat} {done : List Chg} {j : Nat} {y : Int} (h : DInv w wr X ax cx s a c done j y) (hb : Below wr.heap.size wr w') : DInv w w' X ax cx s a c done j y :=
  ⟨h.rq.upw hb, blk_up h.zero hb, blk_up h.box hb, h.own.up hb⟩
theorem DInv.call {w wr w' : World} {X : List Int} {ax : Option Addr} {cx : Nat} {s : Int} {a : Option Addr} {c : Nat} {done : List Chg} {j j' : Nat} {y y' : Int} (h : DInv w wr X ax cx s a c done j y) (hr : RQ w w' (w.heap.size + 1) X ax cx j' y') (hg : wr.grownBy w' (some (w.heap.size + 1))) : DInv w w' X ax cx s a c done j' y' :=
  ⟨hr, blk_grown h.zero hg (by simp), blk_grown h.box hg (by simp), h.own.kept hg (fun g e => by injection e with e; omega)⟩

/-- The same beside a change that is being read. -/
structure DMid (w wr : World) (X : List Int) (ax : Option Addr) (cx : Nat) (s : Int) (a : Option Addr) (c : Nat) (done : List Chg) (j : Nat) (y : Int) (Cb : Nat) (key : ByteArray) (del : Bool) (val : ByteArray) : Prop where
  inv : DInv w wr X ax cx s a c done j y
  cb : wr.heap[Cb]? = some (.cells #[.string key, .bool del, .string val] 67)
  lo : w.heap.size + 1 + 1 < Cb
  ne : (Value.slice a done.length c).ownBlock ≠ some Cb

theorem DMid.start {w wr : World} {X : List Int} {ax : Option Addr} {cx : Nat} {s : Int} {a : Option Addr} {c : Nat} {done : List Chg} {j : Nat} {y : Int} (h : DInv w wr X ax cx s a c done j y) : DMid w (wr.alloc (.cells #[.string ⟨#[]⟩, .bool false, .string ⟨#[]⟩] 67)) X ax cx s a c done j y wr.heap.size ⟨#[]⟩ false ⟨#[]⟩ :=
  ⟨h.upw (up_alloc _ _), blk_new _ _, blk_lt h.box, fun e => by have := (h.own.2.lt _ e).2; omega⟩
theorem DMid.call {w wr w' : World} {X : List Int} {ax : Option Addr} {cx : Nat} {s : Int} {a : Option Addr} {c : Nat} {done : List Chg} {j j' : Nat} {y y' : Int} {Cb : Nat} {key : ByteArray} {del : Bool} {val : ByteArray} (h : DMid w wr X ax cx s a c done j y Cb key del val) (hr : RQ w w' (w.heap.size + 1) X ax cx j' y') (hg : wr.grownBy w' (some (w.heap.size + 1))) : DMid w w' X ax cx s a c done j' y' Cb key del val :=
  ⟨h.inv.call hr hg, blk_grown h.cb hg (by have := h.lo; simp; omega), h.lo, h.ne⟩
theorem DMid.set {w wr : World} {X : List Int} {ax : Option Addr} {cx : Nat} {s : Int} {a : Option Addr} {c : Nat} {done : List Chg} {j : Nat} {y : Int} {Cb : Nat} {key : ByteArray} {del : Bool} {val : ByteArray} (h : DMid w wr X ax cx s a c done j y Cb key del val) (i : Nat) (v : Value) {key' : ByteArray} {del' : Bool} {val' : ByteArray} (hv : (#[.string key, .bool del, .string val] : Array Value).setIfInBounds i v = #[.string key', .bool del', .string val']) :
    DMid w (wr.setCell ⟨Cb, i, none⟩ v) X ax cx s a c done j y Cb key' del' val' := by
  have hg := grown_set wr ⟨Cb, i, none⟩ v
  have hl := h.lo
  refine ⟨⟨h.inv.rq.far hg (fun g e => by simp at e; omega), blk_grown h.inv.zero hg (by simp; omega), blk_grown h.inv.box hg (by simp; omega), OwnR.far h.inv.own hg (.inr h.ne)⟩, ?_, h.lo, h.ne⟩
  rw [blk_set h.cb i v, hv]
theorem DMid.append {w wr wb w3 : World} {X : List Int} {ax : Option Addr} {cx : Nat} {s : Int} {a : Option Addr} {c : Nat} {done : List Chg} {j : Nat} {y : Int} (h : DInv w wb X ax cx s a c done j y) {ch : Chg} {v3 : Value}
    (ho : OwnR w3 (w.heap.size + 1 + 1 + 1) 67 3 v3 (done.map crow ++ [crow ch])) (hg : wb.grownBy w3 (Value.slice a done.length c).ownBlock) :
    ∃ a3 c3, v3 = .slice a3 (done.length + 1) c3 ∧ w3.cell? ⟨w.heap.size + 1 + 1, 1, none⟩ = some (.slice a done.length c) ∧ w3.frozen? ⟨w.heap.size + 1 + 1, 1, none⟩ = false ∧ Hid (DInv w (w3.setCell ⟨w.heap.size + 1 + 1, 1, none⟩ (.slice a3 (done.length + 1) c3)) X ax cx s a3 c3 (done ++ [ch]) j y) := by
  have ho' : OwnC w3 (w.heap.size + 1 + 1 + 1) v3 (done ++ [ch]) := by
    unfold OwnC
    rw [List.map_append]
    exact ho
  obtain ⟨a3, c3, rfl⟩ := ho'.shape
  have hlen : (done ++ [ch]).length = done.length + 1 := by simp
  have hz := OwnR.keep h.own hg h.zero (by decide)
  have hb := OwnR.keep h.own hg h.box (by decide)
  have hr : RQ w w3 (w.heap.size + 1) X ax cx j y := h.rq.far hg (fun g e => by have := (h.own.2.lt g e).1; omega)
  have hs := grown_set w3 ⟨w.heap.size + 1 + 1, 1, none⟩ (.slice a3 (done.length + 1) c3)
  rw [hlen]
  refine ⟨a3, c3, rfl, blk_cell hb 1 _ rfl, blk_frozen hb 1, ⟨hr.far hs (fun g e => by simp at e; omega), blk_grown hz hs (by simp; omega), ?_, ?_⟩⟩
  · rw [hlen]
    exact blk_set hb 1 _
  · rw [hlen] at ho' ⊢
    exact ho'.kept hs (fun g e => by simp at e; omega)

theorem octs_cell {w : World} {b off c : Nat} {kd : Int} (h : Octs w (.slice (some ⟨b, off, none⟩) 1 c) [kd]) : w.cell? ⟨b, off, none⟩ = some (.int .u8 kd) := by
  obtain ⟨b', off', e, _, _, hc⟩ := octs_one h
  simp only [Option.some.injEq, Addr.mk.injEq] at e
  obtain ⟨rfl, rfl, _⟩ := e
  exact hc
theorem own_kept5 {w w' : World} {base : Nat} {v : Value} {l : List Int} {M : Nat} {cs : Array Value} {t : TypeId} {fr : Nat × Nat} (h : OwnB w base v l) (hg : w.grownBy w' (some M)) (hM : w.heap[M]? = some (.cells cs t fr)) (ht : (5 : TypeId) ≠ t) : OwnB w' base v l := World.ownsRow.kept h hg (own_blk_ne h hM ht)

/-- What the rounds so far have told. -/
def DLog (n k j : Nat) (y : Int) (q X : List Int) (done : List Chg) : Prop :=
  (y = 0 ∧ chgsP 5 n q = addP done (chgsP 5 (n - k) (X.drop j))) ∨ (y ≠ 0 ∧ ∃ z, chgsP 5 n q = .error z)
theorem DLog.bad {n k j j' : Nat} {y : Int} {q X : List Int} {done done' : List Chg} (h : chgsP 5 n q = addP done (chgsP 5 (n - k) (X.drop j))) (hk : k < n) {z : Int} (hc : chgP 5 (X.drop j) = .error z) (hy : y ≠ 0) : DLog n (k + 1) j' y q X done' := by
  right
  refine ⟨hy, z, ?_⟩
  obtain ⟨m, hm⟩ : ∃ m, n - k = m + 1 := ⟨n - k - 1, by omega⟩
  rw [h, hm, chgsP_stop 5 m _ z hc]
  rfl
theorem DLog.good {n k j j' : Nat} {q X : List Int} {done : List Chg} {ch : Chg} (h : chgsP 5 n q = addP done (chgsP 5 (n - k) (X.drop j))) (hk : k < n) (hc : chgP 5 (X.drop j) = .ok (ch, X.drop j')) : DLog n (k + 1) j' 0 q X (done ++ [ch]) := by
  left
  refine ⟨rfl, ?_⟩
  obtain ⟨m, hm⟩ : ∃ m, n - k = m + 1 := ⟨n - k - 1, by omega⟩
  have e : n - (k + 1) = m := by omega
  rw [h, hm, chgsP_step 5 m _ ch _ hc, addP_add, e]

theorem DInv.setSeq {w wr : World} {X : List Int} {ax : Option Addr} {cx : Nat} {s : Int} {a : Option Addr} {c : Nat} {done : List Chg} {j : Nat} {y : Int} (h : DInv w wr X ax cx s a c done j y) (t : Int) : DInv w (wr.setCell ⟨w.heap.size + 1 + 1, 0, none⟩ (.int .i64 t)) X ax cx t a c done j y := by
  have hs := grown_set wr ⟨w.heap.size + 1 + 1, 0, none⟩ (.int .i64 t)
  exact ⟨h.rq.far hs (fun g e => by simp at e; omega), blk_grown h.zero hs (by simp; omega), blk_set h.box 0 _, h.own.kept hs (fun g e => by simp at e; omega)⟩

abbrev decW (w : World) (a : Option Addr) (n c : Nat) : World := ((w.alloc (.cells #[.int .i64 0, .slice none 0 0] 24)).alloc (.cells #[.slice a n c, .int .i64 0, .int .i64 0] 78)).alloc (.cells #[.int .i64 0, .slice none 0 0] 24)
theorem DInv.start (w : World) (X : List Int) (ax : Option Addr) (cx : Nat) (hx : Octs w (.slice ax X.length cx) X) (hl : X.length ≤ 140737488355328) : DInv w (decW w ax X.length cx) X ax cx 0 none 0 [] 0 0 := by
  have s1 : (w.alloc (.cells #[.int .i64 0, .slice none 0 0] 24)).heap.size = w.heap.size + 1 := by simp
  have s2 : ((w.alloc (.cells #[.int .i64 0, .slice none 0 0] 24)).alloc (.cells #[.slice ax X.length cx, .int .i64 0, .int .i64 0] 78)).heap.size = w.heap.size + 1 + 1 := by simp
  have b1 := blk_up (blk_new (w.alloc (.cells #[.int .i64 0, .slice none 0 0] 24)) (.cells #[.slice ax X.length cx, .int .i64 0, .int .i64 0] 78)) (up_alloc _ (.cells #[.int .i64 0, .slice none 0 0] 24))
  rw [s1] at b1
  have b2 := blk_new ((w.alloc (.cells #[.int .i64 0, .slice none 0 0] 24)).alloc (.cells #[.slice ax X.length cx, .int .i64 0, .int .i64 0] 78)) (.cells #[.int .i64 0, .slice none 0 0] 24)
  rw [s2] at b2
  exact ⟨⟨up_al (up_al (up_alloc w _) _) _, by omega, b1, hx, by simp, hl⟩, blk_up (blk_up (blk_new w _) (up_alloc _ _)) (up_alloc _ _), b2, OwnR.nil _ _ _ _⟩

/-- How the document's Decode ends. -/
def DecEnd (X : List Int) (w : World) (e : Ending) (w' : World) : Prop :=
  match decP 5 X with
  | .ok (s, cs) => ∃ a c, e = .returned (.tuple #[.agg #[.int .i64 s, .slice a cs.length c], .int .i64 0]) ∧ OwnC w' w.heap.size (.slice a cs.length c) cs ∧ Below w.heap.size w w'
  | .error _ => ∃ y, y ≠ 0 ∧ e = .returned (.tuple #[.agg #[.int .i64 0, .slice none 0 0], .int .i64 y]) ∧ Below w.heap.size w w'
theorem DecEnd.bad {X : List Int} {w W : World} {y : Int} (hb : ∃ z, decP 5 X = .error z) (hy : y ≠ 0) (hu : Below w.heap.size w W) : DecEnd X w (.returned (.tuple #[.agg #[.int .i64 0, .slice none 0 0], .int .i64 y])) W := by
  obtain ⟨z, hz⟩ := hb
  unfold DecEnd
  rw [hz]
  exact ⟨y, hy, rfl, hu⟩
theorem DecEnd.good {X : List Int} {w W : World} {s : Int} {cs : List Chg} {a : Option Addr} {c : Nat} (hz : decP 5 X = .ok (s, cs)) (ho : OwnC W w.heap.size (.slice a cs.length c) cs) (hu : Below w.heap.size w W) : DecEnd X w (.returned (.tuple #[.agg #[.int .i64 s, .slice a cs.length c], .int .i64 0])) W := by
  unfold DecEnd
  rw [hz]
  exact ⟨a, c, rfl, ho, hu⟩

theorem dec_bad1 {X : List Int} {y : Int} (h : numQ 1099511627776 4 X = .error y) : ∃ z, decP 5 X = .error z := by
  refine ⟨y, ?_⟩
  unfold decP readP batchP
  rw [show numP 4 X = .error y from h]
theorem dec_bad2 {X r : List Int} {s y : Int} (h : numQ 1099511627776 4 X = .ok (s, r)) (h2 : numQ 1099511627776 4 r = .error y) : ∃ z, decP 5 X = .error z := by
  refine ⟨y, ?_⟩
  unfold decP readP batchP
  rw [show numP 4 X = .ok (s, r) from h]
  simp only
  rw [show numP 4 r = .error y from h2]
theorem dec_bad3 {X r q : List Int} {s n : Int} (h : numQ 1099511627776 4 X = .ok (s, r)) (h2 : numQ 1099511627776 4 r = .ok (n, q)) (hn : 64 < n) : ∃ z, decP 5 X = .error z := by
  refine ⟨3, ?_⟩
  unfold decP readP batchP
  rw [show numP 4 X = .ok (s, r) from h]
  simp only
  rw [show numP 4 r = .ok (n, q) from h2]
  simp only
  rw [if_pos hn]
theorem dec_bad4 {X r q : List Int} {s : Int} {n : Nat} (h : numQ 1099511627776 4 X = .ok (s, r)) (h2 : numQ 1099511627776 4 r = .ok ((n : Int), q)) (hn : n ≤ 64) (h3 : ∃ z, chgsP 5 n q = .error z) : ∃ z, decP 5 X = .error z := by
  obtain ⟨z, h3⟩ := h3
  refine ⟨z, ?_⟩
  unfold decP readP batchP
  rw [show numP 4 X = .ok (s, r) from h]
  simp only
  rw [show numP 4 r = .ok ((n : Int), q) from h2]
  simp only
  rw [if_neg (by omega), Int.toNat_natCast, h3]
theorem dec_ok {X r q : List Int} {s : Int} {n : Nat} (h : numQ 1099511627776 4 X = .ok (s, r)) (h2 : numQ 1099511627776 4 r = .ok ((n : Int), q)) (hn : n ≤ 64) {cs : List Chg} {t : List Int} (h3 : chgsP 5 n q = .ok (cs, t)) : decP 5 X = if t = [] then (if checkOf s cs = 0 then .ok (s, cs) else .error (checkOf s cs)) else .error 23 := by
  unfold decP readP batchP
  rw [show numP 4 X = .ok (s, r) from h]
  simp only
  rw [show numP 4 r = .ok ((n : Int), q) from h2]
  simp only
  rw [if_neg (by omega), Int.toNat_natCast, h3]
  by_cases ht : t = []
  · simp only [ht, if_true]
  · simp only [if_neg ht]

set_option maxHeartbeats 4000000 in
set_option maxRecDepth 100000 in
theorem refDec_any (X : List Int) (ax : Option Addr) (cx : Nat) (w : World) (hx : Octs w (.slice ax X.length cx) X) (hl : X.length ≤ 140737488355328) :
    Calls Try.prog 14 #[.slice ax X.length cx] w fun e w' => DecEnd X w e w' := by
  have D0 : Hid (DInv w (decW w ax X.length cx) X ax cx 0 none 0 [] 0 0) := DInv.start w X ax cx hx hl
  have HOX : Hid (∀ y ∈ X, 0 ≤ y ∧ y ≤ 255) := hx.1
  clear hx
  go_enter Try.func14, Try.ntmps14
  go_wp2_with fail
  refine (refNum_any (w.heap.size + 1) X ax cx 0 1099511627776 4 w _ D0.out.rq (by decide)).mono ?_
  rintro e w1 (⟨s, j1, hq1, hs, rfl, R1, G1⟩ | ⟨y, hq1, rfl, R1, G1⟩)
  · rw [List.drop_zero] at hq1
    have D1 : Hid (DInv w w1 X ax cx 0 none 0 [] j1 0) := D0.out.call R1 G1
    have D1' : Hid (DInv w (w1.setCell ⟨w.heap.size + 1 + 1, 0, none⟩ (.int .i64 s)) X ax cx s none 0 [] j1 0) := D1.out.setSeq s
    have b0 : w1.cell? ⟨w.heap.size + 1 + 1, 0, none⟩ = some (.int .i64 0) := blk_cell D1.out.box 0 _ rfl
    have bz := blk_frozen D1.out.box 0
    clear R1 G1 D0
    go_wp2_with fail
    generalize w1.setCell ⟨w.heap.size + 1 + 1, 0, none⟩ (.int .i64 s) = W1 at *
    clear b0 bz D1
    refine (refNum_any (w.heap.size + 1) X ax cx j1 1099511627776 4 w W1 D1'.out.rq (by decide)).mono ?_
    rintro e w2 (⟨n, j2, hq2, hn, rfl, R2, G2⟩ | ⟨y, hq2, rfl, R2, G2⟩)
    · have D2 : Hid (DInv w w2 X ax cx s none 0 [] j2 0) := D1'.out.call R2 G2
      have e2 : w2.cell? ⟨w.heap.size + 1, 2, none⟩ = some (.int .i64 0) := blk_cell D2.out.rq.blk 2 _ rfl
      have ez := blk_frozen D2.out.rq.blk 2
      clear R2 G2 D1'
      by_cases hn64 : 64 < n
      · have HBD : Hid (∃ z, decP 5 X = .error z) := dec_bad3 hq1 hq2 hn64
        have D3 : Hid (DInv w (w2.setCell ⟨w.heap.size + 1, 2, none⟩ (.int .i64 3)) X ax cx s none 0 [] j2 3) := D2.out.call (D2.out.rq.setErr 3) (grown_set _ _ _)
        clear hq1 hq2
        go_wp2_with fail
        go_loopw [7] (fun i wr => i = .int .i64 0 ∧ Hid (DInv w wr X ax cx s none 0 [] j2 3)) (fun _ _ => 0)
        case atStart => exact ⟨rfl, D3⟩
        case round =>
          obtain ⟨rfl, DE⟩ := hrel
          clear D3
          clear e2 ez D2
          have e2 : wr.cell? ⟨w.heap.size + 1, 2, none⟩ = some (.int .i64 3) := blk_cell DE.out.rq.blk 2 _ rfl
          have q0 : wr.cell? ⟨w.heap.size, 0, none⟩ = some (.int .i64 0) := blk_cell DE.out.zero 0 _ rfl
          have q1 : wr.cell? ⟨w.heap.size, 1, none⟩ = some (.slice none 0 0) := blk_cell DE.out.zero 1 _ rfl
          have z0 := blk_frozen DE.out.zero 0
          have z1 := blk_frozen DE.out.zero 1
          have yy1 : (3 == 0) = false := by first | decide | simp [(by decide : (3 : Int) ≠ 0)]
          have yy2 : (3 != 0) = true := by first | decide | simp [(by decide : (3 : Int) ≠ 0)]
          go_wp2_with fail
          go_region
          all_goals
            go_wp2_with fail
            refine bodyPost_ret (results_bat2 rfl (.inr rfl) _ _ rfl (blk_up (set2_blk DE.out.zero _ _) (up_dr (Below.refl _ _)))) rfl ?_
            exact DecEnd.bad HBD.out (by decide : (3 : Int) ≠ 0) (up_trans (DE.out.rq.up.grown (set2_grown _ _ _ _) DE.out.rq.up.size (fun g hg => by injection hg with hg; omega)) (up_dr (Below.refl _ _)))
      · obtain ⟨n, rfl⟩ : ∃ m : Nat, n = (m : Int) := ⟨n.toNat, by omega⟩
        have hn' : n ≤ 64 := by omega
        generalize hqq : X.drop j2 = q at *
        have HB4 : Hid ((∃ z, chgsP 5 n q = .error z) → ∃ z, decP 5 X = .error z) := fun h => dec_bad4 hq1 hq2 hn' h
        have HOK : Hid (∀ cs t, chgsP 5 n q = .ok (cs, t) → decP 5 X = if t = [] then (if checkOf s cs = 0 then .ok (s, cs) else .error (checkOf s cs)) else .error 23) := fun cs t h => dec_ok hq1 hq2 hn' h
        have HLG : Hid (DLog n 0 j2 0 q X []) := .inl ⟨rfl, by rw [addP_nil, hqq]; rfl⟩
        clear hq1 hq2 hqq ez hs hn
        go_wp2_with fail
        go_loopw [7] (fun i wr => ∃ (k : Nat) (done : List Chg) (a : Option Addr) (c j : Nat) (y : Int), k ≤ n ∧ i = .int .i64 k ∧ Hid (done.length = k) ∧ Hid (DInv w wr X ax cx s a c done j y) ∧ Hid (DLog n k j y q X done)) (fun i _ => n - (intOf i).toNat)
        case atStart => exact ⟨0, [], none, 0, j2, 0, Nat.zero_le _, rfl, rfl, D2, HLG⟩
        case round =>
          clear D2 HLG e2
          obtain ⟨k, done, a, c, j, y, hk, rfl, HK, DI, LG0⟩ := hrel
          by_cases hy : y = 0
          · subst hy
            have HEQ : Hid (chgsP 5 n q = addP done (chgsP 5 (n - k) (X.drop j))) := by
              rcases LG0.out with h | h
              · exact h.2
              · exact absurd rfl h.1
            have p2 : wr.cell? ⟨w.heap.size + 1, 2, none⟩ = some (.int .i64 0) := blk_cell DI.out.rq.blk 2 _ rfl
            by_cases hlt : k < n
            · have hlt' : (k : Int) < (n : Int) := by omega
              have HKL : Hid (done.length ≤ 64) := by have := HK.out; unfold Hid; omega
              have hjl := DI.out.rq.le
              clear LG0 HB4 HOK
              cases hX : X.drop j with
              | nil =>
                have hjx : X.length ≤ j := List.drop_eq_nil_iff.1 hX
                have HCB : Hid (chgP 5 (X.drop j) = .error 8) := by unfold Hid; rw [hX]; rfl
                clear hX
                go_wp2_with fail
                refine (refTake_short (w.heap.size + 1) X ax cx j 1 w wr DI.out.rq (by omega) (by decide)).mono ?_
                rintro e w1 ⟨rfl, R1, G1⟩
                have D1 : Hid (DInv w w1 X ax cx s a c done j 8) := DI.out.call R1.out G1.out
                have e1 : w1.cell? ⟨w.heap.size + 1, 2, none⟩ = some (.int .i64 8) := blk_cell D1.out.rq.blk 2 _ rfl
                clear R1 G1 DI p2
                go_wp2_with fail
                have MC : Hid (DMid w (w1.alloc (.cells #[.string ⟨#[]⟩, .bool false, .string ⟨#[]⟩] 67)) X ax cx s a c done j 8 w1.heap.size ⟨#[]⟩ false ⟨#[]⟩) := DMid.start D1.out
                generalize w1.alloc (.cells #[.string ⟨#[]⟩, .bool false, .string ⟨#[]⟩] 67) = WC at *
                generalize w1.heap.size = Cb at *
                refine (refText_err (w.heap.size + 1) X ax cx j 8 w WC MC.out.inv.rq (by decide)).mono ?_
                rintro e w2 ⟨rfl, rfl⟩
                clear e1 D1
                have e2 : w2.cell? ⟨w.heap.size + 1, 2, none⟩ = some (.int .i64 8) := blk_cell MC.out.inv.rq.blk 2 _ rfl
                have bx1 : w2.cell? ⟨w.heap.size + 1 + 1, 1, none⟩ = some (.slice a done.length c) := blk_cell MC.out.inv.box 1 _ rfl
                have k0 : w2.cell? ⟨Cb, 0, none⟩ = some (.string ⟨#[]⟩) := blk_cell MC.out.cb 0 _ rfl
                have k1 : w2.cell? ⟨Cb, 1, none⟩ = some (.bool false) := blk_cell MC.out.cb 1 _ rfl
                have k2 : w2.cell? ⟨Cb, 2, none⟩ = some (.string ⟨#[]⟩) := blk_cell MC.out.cb 2 _ rfl
                have kz0 := blk_frozen MC.out.cb 0
                have kz1 := blk_frozen MC.out.cb 1
                have kz2 := blk_frozen MC.out.cb 2
                have hcl := MC.out.lo
                have hc1 : ¬ w.heap.size + 1 = Cb := by omega
                have hc2 : ¬ w.heap.size + 1 + 1 = Cb := by omega
                have hc3 : ¬ Cb = w.heap.size + 1 := by omega
                have hc4 : ¬ Cb = w.heap.size + 1 + 1 := by omega
                clear hcl
                have MS : Hid (DMid w ((w2.setCell ⟨Cb, 0, none⟩ (.string ⟨#[]⟩)).setCell ⟨Cb, 1, none⟩ (.bool false)) X ax cx s a c done j 8 Cb ⟨#[]⟩ false ⟨#[]⟩) := (MC.out.set 0 (.string ⟨#[]⟩) rfl).set 1 (.bool false) rfl
                have HRW : Hid (Rws 3 (((w2.setCell ⟨Cb, 0, none⟩ (.string ⟨#[]⟩)).setCell ⟨Cb, 1, none⟩ (.bool false)).alloc (.cells #[.string ⟨#[]⟩, .bool false, .string ⟨#[]⟩] 67)) (.slice (some ⟨w2.heap.size, 0, none⟩) 1 1) [crow ⟨⟨#[]⟩, false, ⟨#[]⟩⟩]) := by
                  have h := Rws.made (sz := 3) ((w2.setCell ⟨Cb, 0, none⟩ (.string ⟨#[]⟩)).setCell ⟨Cb, 1, none⟩ (.bool false)) 67 [[.string ⟨#[]⟩, .bool false, .string ⟨#[]⟩]] (by simp) (by simp [maxLen])
                  have e : ((w2.setCell ⟨Cb, 0, none⟩ (.string ⟨#[]⟩)).setCell ⟨Cb, 1, none⟩ (.bool false)).heap.size = w2.heap.size := by simp
                  rw [e] at h
                  exact h
                have H1 : Hid (∀ r ∈ [crow ⟨⟨#[]⟩, false, ⟨#[]⟩⟩], ∀ u ∈ r, u.oneCell' = true) := crow_one [⟨⟨#[]⟩, false, ⟨#[]⟩⟩]
                have DA : Hid (DInv w (((w2.setCell ⟨Cb, 0, none⟩ (.string ⟨#[]⟩)).setCell ⟨Cb, 1, none⟩ (.bool false)).alloc (.cells #[.string ⟨#[]⟩, .bool false, .string ⟨#[]⟩] 67)) X ax cx s a c done j 8) := MS.out.inv.upw (up_alloc _ _)
                have SA : Hid (w.heap.size + 1 + 1 + 1 ≤ (((w2.setCell ⟨Cb, 0, none⟩ (.string ⟨#[]⟩)).setCell ⟨Cb, 1, none⟩ (.bool false)).alloc (.cells #[.string ⟨#[]⟩, .bool false, .string ⟨#[]⟩] 67)).heap.size) := blk_lt DA.out.box
                have LG : Hid (DLog n (k + 1) j 8 q X (done ++ [⟨⟨#[]⟩, false, ⟨#[]⟩⟩])) := DLog.bad HEQ.out hlt HCB.out (by decide)
                have HB1 : Hid ((((done.map crow).length + [crow ⟨⟨#[]⟩, false, ⟨#[]⟩⟩].length) + ((done.map crow).length + [crow ⟨⟨#[]⟩, false, ⟨#[]⟩⟩].length) / 4 + 192) * 40 ≤ 281474976710656) := by have := HKL.out; unfold Hid; simp; omega
                have HB2 : Hid ((done.map crow).length + [crow ⟨⟨#[]⟩, false, ⟨#[]⟩⟩].length ≤ maxLen) := by have := HKL.out; unfold Hid maxLen; simp; omega
                go_wp2_with (at_builtin; refine wpList_append_rows _ rfl _ _ 22 67 _ 3 40 rfl Try.underlying22 Try.info67 rfl (by decide) (w.heap.size + 1 + 1 + 1) (.slice a done.length c) (done.map crow) rfl DA.out.own (.slice (some ⟨w2.heap.size, 0, none⟩) 1 1) [crow ⟨⟨#[]⟩, false, ⟨#[]⟩⟩] rfl HRW.out H1.out HB1.out HB2.out SA.out ?_)
                intro v5 w5 o5 g5
                obtain ⟨a3, c3, rfl, b1, f1, D5⟩ := DMid.append (wr := wr) DA.out o5 g5
                clear o5 g5 HRW H1 DA SA HB1 HB2
                go_wp2
                exact ⟨⟨k + 1, _, a3, c3, _, _, hlt, by go_num, by unfold Hid; rw [List.length_append, HK.out]; rfl, D5, LG⟩, by simp [intOf]; omega⟩
              | cons kd r =>
                have hjx : j < X.length := by
                  rcases Nat.lt_or_ge j X.length with h | h
                  · exact h
                  · rw [List.drop_eq_nil_iff.2 h] at hX; cases hX
                have HXJ : Hid (X.drop j = kd :: X.drop (j + 1)) := by
                  unfold Hid
                  have h2 : X.drop (j + 1) = r := by rw [← List.drop_drop, hX]; rfl
                  rw [h2, hX]
                have HDR : Hid ((X.drop j).take 1 = [kd]) := by unfold Hid; rw [hX]; rfl
                have HKO : Hid (0 ≤ kd ∧ kd ≤ 255) := HOX.out kd (List.mem_of_mem_drop (by rw [hX]; simp))
                clear hX
                by_cases hk1 : kd = 1
                · subst hk1
                  go_wp2_with fail
                  refine (refTake_ok (w.heap.size + 1) X ax cx j 1 w wr DI.out.rq (by omega) (by decide)).mono ?_
                  rintro e w1 ⟨ak, ck, rfl, OK1, R1, G1⟩
                  have OKX : Hid (OwnB w1 wr.heap.size (.slice ak 1 ck) [1]) := by have h := OK1.out; rw [HDR.out] at h; exact h
                  have D1 : Hid (DInv w w1 X ax cx s a c done (j + 1) 0) := DI.out.call R1.out G1.out
                  obtain ⟨b, off, rfl, hck1, hck2, kc⟩ := octs_one (Octs.own OKX.out (by decide))
                  unfold maxLen at hck2
                  have e1 : w1.cell? ⟨w.heap.size + 1, 2, none⟩ = some (.int .i64 0) := blk_cell D1.out.rq.blk 2 _ rfl
                  have ez1 := blk_frozen D1.out.rq.blk 2
                  clear R1 G1 DI OK1 p2
                  go_wp2_with fail
                  have MC : Hid (DMid w (w1.alloc (.cells #[.string ⟨#[]⟩, .bool false, .string ⟨#[]⟩] 67)) X ax cx s a c done (j + 1) 0 w1.heap.size ⟨#[]⟩ false ⟨#[]⟩) := DMid.start D1.out
                  have OKC : Hid (OwnB (w1.alloc (.cells #[.string ⟨#[]⟩, .bool false, .string ⟨#[]⟩] 67)) wr.heap.size (.slice (some ⟨b, off, none⟩) 1 ck) [1]) := own_up OKX.out (up_alloc _ _)
                  generalize w1.alloc (.cells #[.string ⟨#[]⟩, .bool false, .string ⟨#[]⟩] 67) = WC at *
                  generalize w1.heap.size = Cb at *
                  refine (refText_any (w.heap.size + 1) X ax cx (j + 1) w WC MC.out.inv.rq).mono ?_
                  rintro e w2 (⟨s1, j1, hq1, rfl, R2, G2⟩ | ⟨y1, j1, hq1, hy1, rfl, R2, G2⟩)
                  · have M2 : Hid (DMid w w2 X ax cx s a c done j1 0 Cb ⟨#[]⟩ false ⟨#[]⟩) := MC.out.call R2 G2
                    have OK2 : Hid (OwnB w2 wr.heap.size (.slice (some ⟨b, off, none⟩) 1 ck) [1]) := own_kept5 OKC.out G2 MC.out.inv.rq.blk (by decide)
                    clear R2 G2 MC OKC e1 ez1 D1 kc OKX
                    have e2 : w2.cell? ⟨w.heap.size + 1, 2, none⟩ = some (.int .i64 0) := blk_cell M2.out.inv.rq.blk 2 _ rfl
                    have bx1 : w2.cell? ⟨w.heap.size + 1 + 1, 1, none⟩ = some (.slice a done.length c) := blk_cell M2.out.inv.box 1 _ rfl
                    have k0 : w2.cell? ⟨Cb, 0, none⟩ = some (.string ⟨#[]⟩) := blk_cell M2.out.cb 0 _ rfl
                    have k1 : w2.cell? ⟨Cb, 1, none⟩ = some (.bool false) := blk_cell M2.out.cb 1 _ rfl
                    have k2 : w2.cell? ⟨Cb, 2, none⟩ = some (.string ⟨#[]⟩) := blk_cell M2.out.cb 2 _ rfl
                    have kz0 := blk_frozen M2.out.cb 0
                    have kz1 := blk_frozen M2.out.cb 1
                    have kz2 := blk_frozen M2.out.cb 2
                    have hcl := M2.out.lo
                    have hc1 : ¬ w.heap.size + 1 = Cb := by omega
                    have hc2 : ¬ w.heap.size + 1 + 1 = Cb := by omega
                    have hc3 : ¬ Cb = w.heap.size + 1 := by omega
                    have hc4 : ¬ Cb = w.heap.size + 1 + 1 := by omega
                    clear hcl
                    have kc2 : w2.cell? ⟨b, off, none⟩ = some (.int .u8 1) := octs_cell (Octs.own OK2.out (by decide))
                    have hbc : ¬ b = Cb := by
                      rcases own_blk_ne OK2.out M2.out.cb (by decide) with h | h
                      · cases h
                      · exact fun e => h (by rw [← e]; rfl)
                    have M3 : Hid (DMid w ((w2.setCell ⟨Cb, 0, none⟩ (.string s1)).setCell ⟨Cb, 1, none⟩ (.bool false)) X ax cx s a c done j1 0 Cb s1 false ⟨#[]⟩) := (M2.out.set 0 (.string s1) rfl).set 1 (.bool false) rfl
                    go_wp2_with fail
                    generalize ((w2.setCell ⟨Cb, 0, none⟩ (.string s1)).setCell ⟨Cb, 1, none⟩ (.bool false)) = W3 at *
                    refine (refText_any (w.heap.size + 1) X ax cx j1 w W3 M3.out.inv.rq).mono ?_
                    rintro e w4 (⟨s2, j2, hq2, rfl, R4, G4⟩ | ⟨y2, j2, hq2, hy2, rfl, R4, G4⟩)
                    · have M4 : Hid (DMid w w4 X ax cx s a c done j2 0 Cb s1 false ⟨#[]⟩) := M3.out.call R4 G4
                      have HCG : Hid (chgP 5 (X.drop j) = .ok (⟨s1, false, s2⟩, X.drop j2)) := by
                        unfold Hid
                        rw [HXJ.out]
                        simp only [chgP]
                        rw [if_pos (by simp), textQ_eq, hq1]
                        simp only
                        rw [if_neg (by decide), textQ_eq, hq2]
                      clear R4 G4 M3 M2 OK2 hq1 hq2 kc2 hbc e2 bx1 k0 k1 k2 kz0 kz1 kz2 hc1 hc2 hc3 hc4
                      have e2 : w4.cell? ⟨w.heap.size + 1, 2, none⟩ = some (.int .i64 0) := blk_cell M4.out.inv.rq.blk 2 _ rfl
                      have bx1 : w4.cell? ⟨w.heap.size + 1 + 1, 1, none⟩ = some (.slice a done.length c) := blk_cell M4.out.inv.box 1 _ rfl
                      have k0 : w4.cell? ⟨Cb, 0, none⟩ = some (.string s1) := blk_cell M4.out.cb 0 _ rfl
                      have k1 : w4.cell? ⟨Cb, 1, none⟩ = some (.bool false) := blk_cell M4.out.cb 1 _ rfl
                      have k2 : w4.cell? ⟨Cb, 2, none⟩ = some (.string ⟨#[]⟩) := blk_cell M4.out.cb 2 _ rfl
                      have kz0 := blk_frozen M4.out.cb 0
                      have kz1 := blk_frozen M4.out.cb 1
                      have kz2 := blk_frozen M4.out.cb 2
                      have hcl := M4.out.lo
                      have hc1 : ¬ w.heap.size + 1 = Cb := by omega
                      have hc2 : ¬ w.heap.size + 1 + 1 = Cb := by omega
                      have hc3 : ¬ Cb = w.heap.size + 1 := by omega
                      have hc4 : ¬ Cb = w.heap.size + 1 + 1 := by omega
                      clear hcl
                      have MS : Hid (DMid w (w4.setCell ⟨Cb, 2, none⟩ (.string s2)) X ax cx s a c done j2 0 Cb s1 false s2) := M4.out.set 2 (.string s2) rfl
                      have HRW : Hid (Rws 3 ((w4.setCell ⟨Cb, 2, none⟩ (.string s2)).alloc (.cells #[.string s1, .bool false, .string s2] 67)) (.slice (some ⟨w4.heap.size, 0, none⟩) 1 1) [crow ⟨s1, false, s2⟩]) := by
                        have h := Rws.made (sz := 3) (w4.setCell ⟨Cb, 2, none⟩ (.string s2)) 67 [[.string s1, .bool false, .string s2]] (by simp) (by simp [maxLen])
                        have e : (w4.setCell ⟨Cb, 2, none⟩ (.string s2)).heap.size = w4.heap.size := by simp
                        rw [e] at h
                        exact h
                      have H1 : Hid (∀ r ∈ [crow ⟨s1, false, s2⟩], ∀ u ∈ r, u.oneCell' = true) := crow_one [⟨s1, false, s2⟩]
                      have DA : Hid (DInv w ((w4.setCell ⟨Cb, 2, none⟩ (.string s2)).alloc (.cells #[.string s1, .bool false, .string s2] 67)) X ax cx s a c done j2 0) := MS.out.inv.upw (up_alloc _ _)
                      have SA : Hid (w.heap.size + 1 + 1 + 1 ≤ ((w4.setCell ⟨Cb, 2, none⟩ (.string s2)).alloc (.cells #[.string s1, .bool false, .string s2] 67)).heap.size) := blk_lt DA.out.box
                      have LG : Hid (DLog n (k + 1) j2 0 q X (done ++ [⟨s1, false, s2⟩])) := DLog.good HEQ.out hlt HCG.out
                      have HB1 : Hid ((((done.map crow).length + [crow ⟨s1, false, s2⟩].length) + ((done.map crow).length + [crow ⟨s1, false, s2⟩].length) / 4 + 192) * 40 ≤ 281474976710656) := by have := HKL.out; unfold Hid; simp; omega
                      have HB2 : Hid ((done.map crow).length + [crow ⟨s1, false, s2⟩].length ≤ maxLen) := by have := HKL.out; unfold Hid maxLen; simp; omega
                      go_wp2_with (at_builtin; refine wpList_append_rows _ rfl _ _ 22 67 _ 3 40 rfl Try.underlying22 Try.info67 rfl (by decide) (w.heap.size + 1 + 1 + 1) (.slice a done.length c) (done.map crow) rfl DA.out.own (.slice (some ⟨w4.heap.size, 0, none⟩) 1 1) [crow ⟨s1, false, s2⟩] rfl HRW.out H1.out HB1.out HB2.out SA.out ?_)
                      intro v5 w5 o5 g5
                      obtain ⟨a3, c3, rfl, b1, f1, D5⟩ := DMid.append (wr := wr) DA.out o5 g5
                      clear o5 g5 HRW H1 DA SA HB1 HB2
                      go_wp2
                      exact ⟨⟨k + 1, _, a3, c3, _, _, hlt, by go_num, by unfold Hid; rw [List.length_append, HK.out]; rfl, D5, LG⟩, by simp [intOf]; omega⟩
                    · have M4 : Hid (DMid w w4 X ax cx s a c done j2 y2 Cb s1 false ⟨#[]⟩) := M3.out.call R4 G4
                      have HCE : Hid (chgP 5 (X.drop j) = .error y2) := by
                        unfold Hid
                        rw [HXJ.out]
                        simp only [chgP]
                        rw [if_pos (by simp), textQ_eq, hq1]
                        simp only
                        rw [if_neg (by decide), textQ_eq, hq2]
                      clear R4 G4 M3 M2 OK2 hq1 hq2 kc2 hbc e2 bx1 k0 k1 k2 kz0 kz1 kz2 hc1 hc2 hc3 hc4
                      have e2 : w4.cell? ⟨w.heap.size + 1, 2, none⟩ = some (.int .i64 y2) := blk_cell M4.out.inv.rq.blk 2 _ rfl
                      have bx1 : w4.cell? ⟨w.heap.size + 1 + 1, 1, none⟩ = some (.slice a done.length c) := blk_cell M4.out.inv.box 1 _ rfl
                      have k0 : w4.cell? ⟨Cb, 0, none⟩ = some (.string s1) := blk_cell M4.out.cb 0 _ rfl
                      have k1 : w4.cell? ⟨Cb, 1, none⟩ = some (.bool false) := blk_cell M4.out.cb 1 _ rfl
                      have k2 : w4.cell? ⟨Cb, 2, none⟩ = some (.string ⟨#[]⟩) := blk_cell M4.out.cb 2 _ rfl
                      have kz0 := blk_frozen M4.out.cb 0
                      have kz1 := blk_frozen M4.out.cb 1
                      have kz2 := blk_frozen M4.out.cb 2
                      have hcl := M4.out.lo
                      have hc1 : ¬ w.heap.size + 1 = Cb := by omega
                      have hc2 : ¬ w.heap.size + 1 + 1 = Cb := by omega
                      have hc3 : ¬ Cb = w.heap.size + 1 := by omega
                      have hc4 : ¬ Cb = w.heap.size + 1 + 1 := by omega
                      clear hcl
                      have MS : Hid (DMid w (w4.setCell ⟨Cb, 2, none⟩ (.string ⟨#[]⟩)) X ax cx s a c done j2 y2 Cb s1 false ⟨#[]⟩) := M4.out.set 2 (.string ⟨#[]⟩) rfl
                      have HRW : Hid (Rws 3 ((w4.setCell ⟨Cb, 2, none⟩ (.string ⟨#[]⟩)).alloc (.cells #[.string s1, .bool false, .string ⟨#[]⟩] 67)) (.slice (some ⟨w4.heap.size, 0, none⟩) 1 1) [crow ⟨s1, false, ⟨#[]⟩⟩]) := by
                        have h := Rws.made (sz := 3) (w4.setCell ⟨Cb, 2, none⟩ (.string ⟨#[]⟩)) 67 [[.string s1, .bool false, .string ⟨#[]⟩]] (by simp) (by simp [maxLen])
                        have e : (w4.setCell ⟨Cb, 2, none⟩ (.string ⟨#[]⟩)).heap.size = w4.heap.size := by simp
                        rw [e] at h
                        exact h
                      have H1 : Hid (∀ r ∈ [crow ⟨s1, false, ⟨#[]⟩⟩], ∀ u ∈ r, u.oneCell' = true) := crow_one [⟨s1, false, ⟨#[]⟩⟩]
                      have DA : Hid (DInv w ((w4.setCell ⟨Cb, 2, none⟩ (.string ⟨#[]⟩)).alloc (.cells #[.string s1, .bool false, .string ⟨#[]⟩] 67)) X ax cx s a c done j2 y2) := MS.out.inv.upw (up_alloc _ _)
                      have SA : Hid (w.heap.size + 1 + 1 + 1 ≤ ((w4.setCell ⟨Cb, 2, none⟩ (.string ⟨#[]⟩)).alloc (.cells #[.string s1, .bool false, .string ⟨#[]⟩] 67)).heap.size) := blk_lt DA.out.box
                      have LG : Hid (DLog n (k + 1) j2 y2 q X (done ++ [⟨s1, false, ⟨#[]⟩⟩])) := DLog.bad HEQ.out hlt HCE.out hy2
                      have HB1 : Hid ((((done.map crow).length + [crow ⟨s1, false, ⟨#[]⟩⟩].length) + ((done.map crow).length + [crow ⟨s1, false, ⟨#[]⟩⟩].length) / 4 + 192) * 40 ≤ 281474976710656) := by have := HKL.out; unfold Hid; simp; omega
                      have HB2 : Hid ((done.map crow).length + [crow ⟨s1, false, ⟨#[]⟩⟩].length ≤ maxLen) := by have := HKL.out; unfold Hid maxLen; simp; omega
                      go_wp2_with (at_builtin; refine wpList_append_rows _ rfl _ _ 22 67 _ 3 40 rfl Try.underlying22 Try.info67 rfl (by decide) (w.heap.size + 1 + 1 + 1) (.slice a done.length c) (done.map crow) rfl DA.out.own (.slice (some ⟨w4.heap.size, 0, none⟩) 1 1) [crow ⟨s1, false, ⟨#[]⟩⟩] rfl HRW.out H1.out HB1.out HB2.out SA.out ?_)
                      intro v5 w5 o5 g5
                      obtain ⟨a3, c3, rfl, b1, f1, D5⟩ := DMid.append (wr := wr) DA.out o5 g5
                      clear o5 g5 HRW H1 DA SA HB1 HB2
                      go_wp2
                      exact ⟨⟨k + 1, _, a3, c3, _, _, hlt, by go_num, by unfold Hid; rw [List.length_append, HK.out]; rfl, D5, LG⟩, by simp [intOf]; omega⟩
                  · have M2 : Hid (DMid w w2 X ax cx s a c done j1 y1 Cb ⟨#[]⟩ false ⟨#[]⟩) := MC.out.call R2 G2
                    have HCE : Hid (chgP 5 (X.drop j) = .error y1) := by
                      unfold Hid
                      rw [HXJ.out]
                      simp only [chgP]
                      rw [if_pos (by simp), textQ_eq, hq1]
                    have yf1 : (y1 == 0) = false := by simp [hy1]
                    have yf2 : (y1 != 0) = true := by simp [hy1]
                    clear R2 G2 MC OKC e1 ez1 D1 kc OKX hq1
                    have e2 : w2.cell? ⟨w.heap.size + 1, 2, none⟩ = some (.int .i64 y1) := blk_cell M2.out.inv.rq.blk 2 _ rfl
                    have bx1 : w2.cell? ⟨w.heap.size + 1 + 1, 1, none⟩ = some (.slice a done.length c) := blk_cell M2.out.inv.box 1 _ rfl
                    have k0 : w2.cell? ⟨Cb, 0, none⟩ = some (.string ⟨#[]⟩) := blk_cell M2.out.cb 0 _ rfl
                    have k1 : w2.cell? ⟨Cb, 1, none⟩ = some (.bool false) := blk_cell M2.out.cb 1 _ rfl
                    have k2 : w2.cell? ⟨Cb, 2, none⟩ = some (.string ⟨#[]⟩) := blk_cell M2.out.cb 2 _ rfl
                    have kz0 := blk_frozen M2.out.cb 0
                    have kz1 := blk_frozen M2.out.cb 1
                    have kz2 := blk_frozen M2.out.cb 2
                    have hcl := M2.out.lo
                    have hc1 : ¬ w.heap.size + 1 = Cb := by omega
                    have hc2 : ¬ w.heap.size + 1 + 1 = Cb := by omega
                    have hc3 : ¬ Cb = w.heap.size + 1 := by omega
                    have hc4 : ¬ Cb = w.heap.size + 1 + 1 := by omega
                    clear hcl
                    have MS : Hid (DMid w ((w2.setCell ⟨Cb, 0, none⟩ (.string ⟨#[]⟩)).setCell ⟨Cb, 1, none⟩ (.bool false)) X ax cx s a c done j1 y1 Cb ⟨#[]⟩ false ⟨#[]⟩) := (M2.out.set 0 (.string ⟨#[]⟩) rfl).set 1 (.bool false) rfl
                    have HRW : Hid (Rws 3 (((w2.setCell ⟨Cb, 0, none⟩ (.string ⟨#[]⟩)).setCell ⟨Cb, 1, none⟩ (.bool false)).alloc (.cells #[.string ⟨#[]⟩, .bool false, .string ⟨#[]⟩] 67)) (.slice (some ⟨w2.heap.size, 0, none⟩) 1 1) [crow ⟨⟨#[]⟩, false, ⟨#[]⟩⟩]) := by
                      have h := Rws.made (sz := 3) ((w2.setCell ⟨Cb, 0, none⟩ (.string ⟨#[]⟩)).setCell ⟨Cb, 1, none⟩ (.bool false)) 67 [[.string ⟨#[]⟩, .bool false, .string ⟨#[]⟩]] (by simp) (by simp [maxLen])
                      have e : ((w2.setCell ⟨Cb, 0, none⟩ (.string ⟨#[]⟩)).setCell ⟨Cb, 1, none⟩ (.bool false)).heap.size = w2.heap.size := by simp
                      rw [e] at h
                      exact h
                    have H1 : Hid (∀ r ∈ [crow ⟨⟨#[]⟩, false, ⟨#[]⟩⟩], ∀ u ∈ r, u.oneCell' = true) := crow_one [⟨⟨#[]⟩, false, ⟨#[]⟩⟩]
                    have DA : Hid (DInv w (((w2.setCell ⟨Cb, 0, none⟩ (.string ⟨#[]⟩)).setCell ⟨Cb, 1, none⟩ (.bool false)).alloc (.cells #[.string ⟨#[]⟩, .bool false, .string ⟨#[]⟩] 67)) X ax cx s a c done j1 y1) := MS.out.inv.upw (up_alloc _ _)
                    have SA : Hid (w.heap.size + 1 + 1 + 1 ≤ (((w2.setCell ⟨Cb, 0, none⟩ (.string ⟨#[]⟩)).setCell ⟨Cb, 1, none⟩ (.bool false)).alloc (.cells #[.string ⟨#[]⟩, .bool false, .string ⟨#[]⟩] 67)).heap.size) := blk_lt DA.out.box
                    have LG : Hid (DLog n (k + 1) j1 y1 q X (done ++ [⟨⟨#[]⟩, false, ⟨#[]⟩⟩])) := DLog.bad HEQ.out hlt HCE.out hy1
                    have HB1 : Hid ((((done.map crow).length + [crow ⟨⟨#[]⟩, false, ⟨#[]⟩⟩].length) + ((done.map crow).length + [crow ⟨⟨#[]⟩, false, ⟨#[]⟩⟩].length) / 4 + 192) * 40 ≤ 281474976710656) := by have := HKL.out; unfold Hid; simp; omega
                    have HB2 : Hid ((done.map crow).length + [crow ⟨⟨#[]⟩, false, ⟨#[]⟩⟩].length ≤ maxLen) := by have := HKL.out; unfold Hid maxLen; simp; omega
                    go_wp2_with (at_builtin; refine wpList_append_rows _ rfl _ _ 22 67 _ 3 40 rfl Try.underlying22 Try.info67 rfl (by decide) (w.heap.size + 1 + 1 + 1) (.slice a done.length c) (done.map crow) rfl DA.out.own (.slice (some ⟨w2.heap.size, 0, none⟩) 1 1) [crow ⟨⟨#[]⟩, false, ⟨#[]⟩⟩] rfl HRW.out H1.out HB1.out HB2.out SA.out ?_)
                    intro v5 w5 o5 g5
                    obtain ⟨a3, c3, rfl, b1, f1, D5⟩ := DMid.append (wr := wr) DA.out o5 g5
                    clear o5 g5 HRW H1 DA SA HB1 HB2
                    go_wp2
                    exact ⟨⟨k + 1, _, a3, c3, _, _, hlt, by go_num, by unfold Hid; rw [List.length_append, HK.out]; rfl, D5, LG⟩, by simp [intOf]; omega⟩
                by_cases hk2 : kd = 2
                · subst hk2
                  go_wp2_with fail
                  refine (refTake_ok (w.heap.size + 1) X ax cx j 1 w wr DI.out.rq (by omega) (by decide)).mono ?_
                  rintro e w1 ⟨ak, ck, rfl, OK1, R1, G1⟩
                  have OKX : Hid (OwnB w1 wr.heap.size (.slice ak 1 ck) [2]) := by have h := OK1.out; rw [HDR.out] at h; exact h
                  have D1 : Hid (DInv w w1 X ax cx s a c done (j + 1) 0) := DI.out.call R1.out G1.out
                  obtain ⟨b, off, rfl, hck1, hck2, kc⟩ := octs_one (Octs.own OKX.out (by decide))
                  unfold maxLen at hck2
                  have e1 : w1.cell? ⟨w.heap.size + 1, 2, none⟩ = some (.int .i64 0) := blk_cell D1.out.rq.blk 2 _ rfl
                  have ez1 := blk_frozen D1.out.rq.blk 2
                  clear R1 G1 DI OK1 p2
                  go_wp2_with fail
                  have MC : Hid (DMid w (w1.alloc (.cells #[.string ⟨#[]⟩, .bool false, .string ⟨#[]⟩] 67)) X ax cx s a c done (j + 1) 0 w1.heap.size ⟨#[]⟩ false ⟨#[]⟩) := DMid.start D1.out
                  have OKC : Hid (OwnB (w1.alloc (.cells #[.string ⟨#[]⟩, .bool false, .string ⟨#[]⟩] 67)) wr.heap.size (.slice (some ⟨b, off, none⟩) 1 ck) [2]) := own_up OKX.out (up_alloc _ _)
                  generalize w1.alloc (.cells #[.string ⟨#[]⟩, .bool false, .string ⟨#[]⟩] 67) = WC at *
                  generalize w1.heap.size = Cb at *
                  refine (refText_any (w.heap.size + 1) X ax cx (j + 1) w WC MC.out.inv.rq).mono ?_
                  rintro e w2 (⟨s1, j1, hq1, rfl, R2, G2⟩ | ⟨y1, j1, hq1, hy1, rfl, R2, G2⟩)
                  · have M2 : Hid (DMid w w2 X ax cx s a c done j1 0 Cb ⟨#[]⟩ false ⟨#[]⟩) := MC.out.call R2 G2
                    have OK2 : Hid (OwnB w2 wr.heap.size (.slice (some ⟨b, off, none⟩) 1 ck) [2]) := own_kept5 OKC.out G2 MC.out.inv.rq.blk (by decide)
                    clear R2 G2 MC OKC e1 ez1 D1 kc OKX
                    have HCG : Hid (chgP 5 (X.drop j) = .ok (⟨s1, true, ⟨#[]⟩⟩, X.drop j1)) := by
                      unfold Hid
                      rw [HXJ.out]
                      simp only [chgP]
                      rw [if_pos (by simp), textQ_eq, hq1]
                      rfl
                    clear hq1
                    have e2 : w2.cell? ⟨w.heap.size + 1, 2, none⟩ = some (.int .i64 0) := blk_cell M2.out.inv.rq.blk 2 _ rfl
                    have bx1 : w2.cell? ⟨w.heap.size + 1 + 1, 1, none⟩ = some (.slice a done.length c) := blk_cell M2.out.inv.box 1 _ rfl
                    have k0 : w2.cell? ⟨Cb, 0, none⟩ = some (.string ⟨#[]⟩) := blk_cell M2.out.cb 0 _ rfl
                    have k1 : w2.cell? ⟨Cb, 1, none⟩ = some (.bool false) := blk_cell M2.out.cb 1 _ rfl
                    have k2 : w2.cell? ⟨Cb, 2, none⟩ = some (.string ⟨#[]⟩) := blk_cell M2.out.cb 2 _ rfl
                    have kz0 := blk_frozen M2.out.cb 0
                    have kz1 := blk_frozen M2.out.cb 1
                    have kz2 := blk_frozen M2.out.cb 2
                    have hcl := M2.out.lo
                    have hc1 : ¬ w.heap.size + 1 = Cb := by omega
                    have hc2 : ¬ w.heap.size + 1 + 1 = Cb := by omega
                    have hc3 : ¬ Cb = w.heap.size + 1 := by omega
                    have hc4 : ¬ Cb = w.heap.size + 1 + 1 := by omega
                    clear hcl
                    have kc2 : w2.cell? ⟨b, off, none⟩ = some (.int .u8 2) := octs_cell (Octs.own OK2.out (by decide))
                    have hbc : ¬ b = Cb := by
                      rcases own_blk_ne OK2.out M2.out.cb (by decide) with h | h
                      · cases h
                      · exact fun e => h (by rw [← e]; rfl)
                    have MS : Hid (DMid w ((w2.setCell ⟨Cb, 0, none⟩ (.string s1)).setCell ⟨Cb, 1, none⟩ (.bool true)) X ax cx s a c done j1 0 Cb s1 true ⟨#[]⟩) := (M2.out.set 0 (.string s1) rfl).set 1 (.bool true) rfl
                    have HRW : Hid (Rws 3 (((w2.setCell ⟨Cb, 0, none⟩ (.string s1)).setCell ⟨Cb, 1, none⟩ (.bool true)).alloc (.cells #[.string s1, .bool true, .string ⟨#[]⟩] 67)) (.slice (some ⟨w2.heap.size, 0, none⟩) 1 1) [crow ⟨s1, true, ⟨#[]⟩⟩]) := by
                      have h := Rws.made (sz := 3) ((w2.setCell ⟨Cb, 0, none⟩ (.string s1)).setCell ⟨Cb, 1, none⟩ (.bool true)) 67 [[.string s1, .bool true, .string ⟨#[]⟩]] (by simp) (by simp [maxLen])
                      have e : ((w2.setCell ⟨Cb, 0, none⟩ (.string s1)).setCell ⟨Cb, 1, none⟩ (.bool true)).heap.size = w2.heap.size := by simp
                      rw [e] at h
                      exact h
                    have H1 : Hid (∀ r ∈ [crow ⟨s1, true, ⟨#[]⟩⟩], ∀ u ∈ r, u.oneCell' = true) := crow_one [⟨s1, true, ⟨#[]⟩⟩]
                    have DA : Hid (DInv w (((w2.setCell ⟨Cb, 0, none⟩ (.string s1)).setCell ⟨Cb, 1, none⟩ (.bool true)).alloc (.cells #[.string s1, .bool true, .string ⟨#[]⟩] 67)) X ax cx s a c done j1 0) := MS.out.inv.upw (up_alloc _ _)
                    have SA : Hid (w.heap.size + 1 + 1 + 1 ≤ (((w2.setCell ⟨Cb, 0, none⟩ (.string s1)).setCell ⟨Cb, 1, none⟩ (.bool true)).alloc (.cells #[.string s1, .bool true, .string ⟨#[]⟩] 67)).heap.size) := blk_lt DA.out.box
                    have LG : Hid (DLog n (k + 1) j1 0 q X (done ++ [⟨s1, true, ⟨#[]⟩⟩])) := DLog.good HEQ.out hlt HCG.out
                    have HB1 : Hid ((((done.map crow).length + [crow ⟨s1, true, ⟨#[]⟩⟩].length) + ((done.map crow).length + [crow ⟨s1, true, ⟨#[]⟩⟩].length) / 4 + 192) * 40 ≤ 281474976710656) := by have := HKL.out; unfold Hid; simp; omega
                    have HB2 : Hid ((done.map crow).length + [crow ⟨s1, true, ⟨#[]⟩⟩].length ≤ maxLen) := by have := HKL.out; unfold Hid maxLen; simp; omega
                    go_wp2_with (at_builtin; refine wpList_append_rows _ rfl _ _ 22 67 _ 3 40 rfl Try.underlying22 Try.info67 rfl (by decide) (w.heap.size + 1 + 1 + 1) (.slice a done.length c) (done.map crow) rfl DA.out.own (.slice (some ⟨w2.heap.size, 0, none⟩) 1 1) [crow ⟨s1, true, ⟨#[]⟩⟩] rfl HRW.out H1.out HB1.out HB2.out SA.out ?_)
                    intro v5 w5 o5 g5
                    obtain ⟨a3, c3, rfl, b1, f1, D5⟩ := DMid.append (wr := wr) DA.out o5 g5
                    clear o5 g5 HRW H1 DA SA HB1 HB2
                    go_wp2
                    exact ⟨⟨k + 1, _, a3, c3, _, _, hlt, by go_num, by unfold Hid; rw [List.length_append, HK.out]; rfl, D5, LG⟩, by simp [intOf]; omega⟩
                  · have M2 : Hid (DMid w w2 X ax cx s a c done j1 y1 Cb ⟨#[]⟩ false ⟨#[]⟩) := MC.out.call R2 G2
                    have HCE : Hid (chgP 5 (X.drop j) = .error y1) := by
                      unfold Hid
                      rw [HXJ.out]
                      simp only [chgP]
                      rw [if_pos (by simp), textQ_eq, hq1]
                    have yf1 : (y1 == 0) = false := by simp [hy1]
                    have yf2 : (y1 != 0) = true := by simp [hy1]
                    clear R2 G2 MC OKC e1 ez1 D1 kc OKX hq1
                    have e2 : w2.cell? ⟨w.heap.size + 1, 2, none⟩ = some (.int .i64 y1) := blk_cell M2.out.inv.rq.blk 2 _ rfl
                    have bx1 : w2.cell? ⟨w.heap.size + 1 + 1, 1, none⟩ = some (.slice a done.length c) := blk_cell M2.out.inv.box 1 _ rfl
                    have k0 : w2.cell? ⟨Cb, 0, none⟩ = some (.string ⟨#[]⟩) := blk_cell M2.out.cb 0 _ rfl
                    have k1 : w2.cell? ⟨Cb, 1, none⟩ = some (.bool false) := blk_cell M2.out.cb 1 _ rfl
                    have k2 : w2.cell? ⟨Cb, 2, none⟩ = some (.string ⟨#[]⟩) := blk_cell M2.out.cb 2 _ rfl
                    have kz0 := blk_frozen M2.out.cb 0
                    have kz1 := blk_frozen M2.out.cb 1
                    have kz2 := blk_frozen M2.out.cb 2
                    have hcl := M2.out.lo
                    have hc1 : ¬ w.heap.size + 1 = Cb := by omega
                    have hc2 : ¬ w.heap.size + 1 + 1 = Cb := by omega
                    have hc3 : ¬ Cb = w.heap.size + 1 := by omega
                    have hc4 : ¬ Cb = w.heap.size + 1 + 1 := by omega
                    clear hcl
                    have MS : Hid (DMid w ((w2.setCell ⟨Cb, 0, none⟩ (.string ⟨#[]⟩)).setCell ⟨Cb, 1, none⟩ (.bool false)) X ax cx s a c done j1 y1 Cb ⟨#[]⟩ false ⟨#[]⟩) := (M2.out.set 0 (.string ⟨#[]⟩) rfl).set 1 (.bool false) rfl
                    have HRW : Hid (Rws 3 (((w2.setCell ⟨Cb, 0, none⟩ (.string ⟨#[]⟩)).setCell ⟨Cb, 1, none⟩ (.bool false)).alloc (.cells #[.string ⟨#[]⟩, .bool false, .string ⟨#[]⟩] 67)) (.slice (some ⟨w2.heap.size, 0, none⟩) 1 1) [crow ⟨⟨#[]⟩, false, ⟨#[]⟩⟩]) := by
                      have h := Rws.made (sz := 3) ((w2.setCell ⟨Cb, 0, none⟩ (.string ⟨#[]⟩)).setCell ⟨Cb, 1, none⟩ (.bool false)) 67 [[.string ⟨#[]⟩, .bool false, .string ⟨#[]⟩]] (by simp) (by simp [maxLen])
                      have e : ((w2.setCell ⟨Cb, 0, none⟩ (.string ⟨#[]⟩)).setCell ⟨Cb, 1, none⟩ (.bool false)).heap.size = w2.heap.size := by simp
                      rw [e] at h
                      exact h
                    have H1 : Hid (∀ r ∈ [crow ⟨⟨#[]⟩, false, ⟨#[]⟩⟩], ∀ u ∈ r, u.oneCell' = true) := crow_one [⟨⟨#[]⟩, false, ⟨#[]⟩⟩]
                    have DA : Hid (DInv w (((w2.setCell ⟨Cb, 0, none⟩ (.string ⟨#[]⟩)).setCell ⟨Cb, 1, none⟩ (.bool false)).alloc (.cells #[.string ⟨#[]⟩, .bool false, .string ⟨#[]⟩] 67)) X ax cx s a c done j1 y1) := MS.out.inv.upw (up_alloc _ _)
                    have SA : Hid (w.heap.size + 1 + 1 + 1 ≤ (((w2.setCell ⟨Cb, 0, none⟩ (.string ⟨#[]⟩)).setCell ⟨Cb, 1, none⟩ (.bool false)).alloc (.cells #[.string ⟨#[]⟩, .bool false, .string ⟨#[]⟩] 67)).heap.size) := blk_lt DA.out.box
                    have LG : Hid (DLog n (k + 1) j1 y1 q X (done ++ [⟨⟨#[]⟩, false, ⟨#[]⟩⟩])) := DLog.bad HEQ.out hlt HCE.out hy1
                    have HB1 : Hid ((((done.map crow).length + [crow ⟨⟨#[]⟩, false, ⟨#[]⟩⟩].length) + ((done.map crow).length + [crow ⟨⟨#[]⟩, false, ⟨#[]⟩⟩].length) / 4 + 192) * 40 ≤ 281474976710656) := by have := HKL.out; unfold Hid; simp; omega
                    have HB2 : Hid ((done.map crow).length + [crow ⟨⟨#[]⟩, false, ⟨#[]⟩⟩].length ≤ maxLen) := by have := HKL.out; unfold Hid maxLen; simp; omega
                    go_wp2_with (at_builtin; refine wpList_append_rows _ rfl _ _ 22 67 _ 3 40 rfl Try.underlying22 Try.info67 rfl (by decide) (w.heap.size + 1 + 1 + 1) (.slice a done.length c) (done.map crow) rfl DA.out.own (.slice (some ⟨w2.heap.size, 0, none⟩) 1 1) [crow ⟨⟨#[]⟩, false, ⟨#[]⟩⟩] rfl HRW.out H1.out HB1.out HB2.out SA.out ?_)
                    intro v5 w5 o5 g5
                    obtain ⟨a3, c3, rfl, b1, f1, D5⟩ := DMid.append (wr := wr) DA.out o5 g5
                    clear o5 g5 HRW H1 DA SA HB1 HB2
                    go_wp2
                    exact ⟨⟨k + 1, _, a3, c3, _, _, hlt, by go_num, by unfold Hid; rw [List.length_append, HK.out]; rfl, D5, LG⟩, by simp [intOf]; omega⟩
                have HCB : Hid (chgP 5 (X.drop j) = .error 22) := by
                  unfold Hid
                  rw [HXJ.out]
                  simp only [chgP]
                  rw [if_neg (by omega)]
                go_wp2_with fail
                refine (refTake_ok (w.heap.size + 1) X ax cx j 1 w wr DI.out.rq (by omega) (by decide)).mono ?_
                rintro e w1 ⟨ak, ck, rfl, OK1, R1, G1⟩
                have OKX : Hid (OwnB w1 wr.heap.size (.slice ak 1 ck) [kd]) := by have h := OK1.out; rw [HDR.out] at h; exact h
                have D1 : Hid (DInv w w1 X ax cx s a c done (j + 1) 0) := DI.out.call R1.out G1.out
                obtain ⟨b, off, rfl, hck1, hck2, kc⟩ := octs_one (Octs.own OKX.out (by intro y hy; simp at hy; subst hy; exact HKO.out))
                unfold maxLen at hck2
                have e1 : w1.cell? ⟨w.heap.size + 1, 2, none⟩ = some (.int .i64 0) := blk_cell D1.out.rq.blk 2 _ rfl
                have ez1 := blk_frozen D1.out.rq.blk 2
                clear R1 G1 DI OK1 p2
                have kb1 : (kd != 1) = true := by simp [hk1]
                have kb2 : (kd != 2) = true := by simp [hk2]
                have kb3 : (kd == 1) = false := by simp [hk1]
                have kb4 : (kd == 2) = false := by simp [hk2]
                have D2 : Hid (DInv w (w1.setCell ⟨w.heap.size + 1, 2, none⟩ (.int .i64 22)) X ax cx s a c done (j + 1) 22) := D1.out.call (D1.out.rq.setErr 22) (grown_set _ _ _)
                go_wp2_with fail
                have MC : Hid (DMid w ((w1.setCell ⟨w.heap.size + 1, 2, none⟩ (.int .i64 22)).alloc (.cells #[.string ⟨#[]⟩, .bool false, .string ⟨#[]⟩] 67)) X ax cx s a c done (j + 1) 22 w1.heap.size ⟨#[]⟩ false ⟨#[]⟩) := by
                  have h := DMid.start D2.out
                  have e : (w1.setCell ⟨w.heap.size + 1, 2, none⟩ (.int .i64 22)).heap.size = w1.heap.size := by simp
                  rw [e] at h
                  exact h
                generalize (w1.setCell ⟨w.heap.size + 1, 2, none⟩ (.int .i64 22)).alloc (.cells #[.string ⟨#[]⟩, .bool false, .string ⟨#[]⟩] 67) = WC at *
                generalize w1.heap.size = Cb at *
                refine (refText_err (w.heap.size + 1) X ax cx (j + 1) 22 w WC MC.out.inv.rq (by decide)).mono ?_
                rintro e w2 ⟨rfl, rfl⟩
                clear e1 ez1 D1 D2 kc
                have e2 : w2.cell? ⟨w.heap.size + 1, 2, none⟩ = some (.int .i64 22) := blk_cell MC.out.inv.rq.blk 2 _ rfl
                have bx1 : w2.cell? ⟨w.heap.size + 1 + 1, 1, none⟩ = some (.slice a done.length c) := blk_cell MC.out.inv.box 1 _ rfl
                have k0 : w2.cell? ⟨Cb, 0, none⟩ = some (.string ⟨#[]⟩) := blk_cell MC.out.cb 0 _ rfl
                have k1 : w2.cell? ⟨Cb, 1, none⟩ = some (.bool false) := blk_cell MC.out.cb 1 _ rfl
                have k2 : w2.cell? ⟨Cb, 2, none⟩ = some (.string ⟨#[]⟩) := blk_cell MC.out.cb 2 _ rfl
                have kz0 := blk_frozen MC.out.cb 0
                have kz1 := blk_frozen MC.out.cb 1
                have kz2 := blk_frozen MC.out.cb 2
                have hcl := MC.out.lo
                have hc1 : ¬ w.heap.size + 1 = Cb := by omega
                have hc2 : ¬ w.heap.size + 1 + 1 = Cb := by omega
                have hc3 : ¬ Cb = w.heap.size + 1 := by omega
                have hc4 : ¬ Cb = w.heap.size + 1 + 1 := by omega
                clear hcl
                have MS : Hid (DMid w ((w2.setCell ⟨Cb, 0, none⟩ (.string ⟨#[]⟩)).setCell ⟨Cb, 1, none⟩ (.bool false)) X ax cx s a c done (j + 1) 22 Cb ⟨#[]⟩ false ⟨#[]⟩) := (MC.out.set 0 (.string ⟨#[]⟩) rfl).set 1 (.bool false) rfl
                have HRW : Hid (Rws 3 (((w2.setCell ⟨Cb, 0, none⟩ (.string ⟨#[]⟩)).setCell ⟨Cb, 1, none⟩ (.bool false)).alloc (.cells #[.string ⟨#[]⟩, .bool false, .string ⟨#[]⟩] 67)) (.slice (some ⟨w2.heap.size, 0, none⟩) 1 1) [crow ⟨⟨#[]⟩, false, ⟨#[]⟩⟩]) := by
                  have h := Rws.made (sz := 3) ((w2.setCell ⟨Cb, 0, none⟩ (.string ⟨#[]⟩)).setCell ⟨Cb, 1, none⟩ (.bool false)) 67 [[.string ⟨#[]⟩, .bool false, .string ⟨#[]⟩]] (by simp) (by simp [maxLen])
                  have e : ((w2.setCell ⟨Cb, 0, none⟩ (.string ⟨#[]⟩)).setCell ⟨Cb, 1, none⟩ (.bool false)).heap.size = w2.heap.size := by simp
                  rw [e] at h
                  exact h
                have H1 : Hid (∀ r ∈ [crow ⟨⟨#[]⟩, false, ⟨#[]⟩⟩], ∀ u ∈ r, u.oneCell' = true) := crow_one [⟨⟨#[]⟩, false, ⟨#[]⟩⟩]
                have DA : Hid (DInv w (((w2.setCell ⟨Cb, 0, none⟩ (.string ⟨#[]⟩)).setCell ⟨Cb, 1, none⟩ (.bool false)).alloc (.cells #[.string ⟨#[]⟩, .bool false, .string ⟨#[]⟩] 67)) X ax cx s a c done (j + 1) 22) := MS.out.inv.upw (up_alloc _ _)
                have SA : Hid (w.heap.size + 1 + 1 + 1 ≤ (((w2.setCell ⟨Cb, 0, none⟩ (.string ⟨#[]⟩)).setCell ⟨Cb, 1, none⟩ (.bool false)).alloc (.cells #[.string ⟨#[]⟩, .bool false, .string ⟨#[]⟩] 67)).heap.size) := blk_lt DA.out.box
                have LG : Hid (DLog n (k + 1) (j + 1) 22 q X (done ++ [⟨⟨#[]⟩, false, ⟨#[]⟩⟩])) := DLog.bad HEQ.out hlt HCB.out (by decide)
                have HB1 : Hid ((((done.map crow).length + [crow ⟨⟨#[]⟩, false, ⟨#[]⟩⟩].length) + ((done.map crow).length + [crow ⟨⟨#[]⟩, false, ⟨#[]⟩⟩].length) / 4 + 192) * 40 ≤ 281474976710656) := by have := HKL.out; unfold Hid; simp; omega
                have HB2 : Hid ((done.map crow).length + [crow ⟨⟨#[]⟩, false, ⟨#[]⟩⟩].length ≤ maxLen) := by have := HKL.out; unfold Hid maxLen; simp; omega
                go_wp2_with (at_builtin; refine wpList_append_rows _ rfl _ _ 22 67 _ 3 40 rfl Try.underlying22 Try.info67 rfl (by decide) (w.heap.size + 1 + 1 + 1) (.slice a done.length c) (done.map crow) rfl DA.out.own (.slice (some ⟨w2.heap.size, 0, none⟩) 1 1) [crow ⟨⟨#[]⟩, false, ⟨#[]⟩⟩] rfl HRW.out H1.out HB1.out HB2.out SA.out ?_)
                intro v5 w5 o5 g5
                obtain ⟨a3, c3, rfl, b1, f1, D5⟩ := DMid.append (wr := wr) DA.out o5 g5
                clear o5 g5 HRW H1 DA SA HB1 HB2
                go_wp2
                exact ⟨⟨k + 1, _, a3, c3, _, _, hlt, by go_num, by unfold Hid; rw [List.length_append, HK.out]; rfl, D5, LG⟩, by simp [intOf]; omega⟩
            · have hlt' : ¬ (k : Int) < (n : Int) := by omega
              obtain rfl : k = n := by omega
              have HQ2 : Hid (chgsP 5 k q = .ok (done, X.drop j)) := by
                have h := HEQ.out
                rw [Nat.sub_self] at h
                unfold Hid
                simpa [chgsP, addP] using h
              have HDP := HOK.out done (X.drop j) HQ2.out
              have a1 : wr.cell? ⟨w.heap.size + 1, 1, none⟩ = some (.int .i64 (j : Int)) := blk_cell DI.out.rq.blk 1 _ rfl
              have b0 : wr.cell? ⟨w.heap.size + 1 + 1, 0, none⟩ = some (.int .i64 s) := blk_cell DI.out.box 0 _ rfl
              have b1 : wr.cell? ⟨w.heap.size + 1 + 1, 1, none⟩ = some (.slice a done.length c) := blk_cell DI.out.box 1 _ rfl
              have hjl := DI.out.rq.le
              clear LG0 HB4 HOK HEQ
              have e2 : wr.cell? ⟨w.heap.size + 1, 2, none⟩ = some (.int .i64 0) := blk_cell DI.out.rq.blk 2 _ rfl
              have q0 : wr.cell? ⟨w.heap.size, 0, none⟩ = some (.int .i64 0) := blk_cell DI.out.zero 0 _ rfl
              have q1 : wr.cell? ⟨w.heap.size, 1, none⟩ = some (.slice none 0 0) := blk_cell DI.out.zero 1 _ rfl
              have z0 := blk_frozen DI.out.zero 0
              have z1 := blk_frozen DI.out.zero 1
              by_cases hjx : j < X.length
              · have hjx' : (j : Int) < (X.length : Int) := by omega
                have HBD : Hid (∃ z, decP 5 X = .error z) := by
                  refine ⟨23, ?_⟩
                  rw [HDP, if_neg]
                  intro e
                  have := List.drop_eq_nil_iff.1 e
                  omega
                clear HDP HQ2
                go_wp2
                refine bodyPost_ret (results_bat2 rfl (.inr rfl) _ _ rfl (set2_blk DI.out.zero _ _)) rfl ?_
                exact DecEnd.bad HBD.out (by decide) (DI.out.rq.up.grown (set2_grown _ _ _ _) DI.out.rq.up.size (fun g hg => by injection hg with hg; omega))
              · have hjx' : ¬ (j : Int) < (X.length : Int) := by omega
                rw [if_pos (List.drop_eq_nil_iff.2 (by omega))] at HDP
                have HDP' : Hid (decP 5 X = if checkOf s done = 0 then .ok (s, done) else .error (checkOf s done)) := HDP
                clear HDP HQ2
                go_wp2_with fail
                refine (refCheck_any s done a c wr DI.out.own.read).mono ?_
                rintro e w5 ⟨rfl, b5⟩
                have D5 : Hid (DInv w w5 X ax cx s a c done j 0) := DI.out.upw b5
                have q0' : w5.cell? ⟨w.heap.size, 0, none⟩ = some (.int .i64 0) := blk_cell D5.out.zero 0 _ rfl
                have q1' : w5.cell? ⟨w.heap.size, 1, none⟩ = some (.slice none 0 0) := blk_cell D5.out.zero 1 _ rfl
                have z0' := blk_frozen D5.out.zero 0
                have z1' := blk_frozen D5.out.zero 1
                have b0' : w5.cell? ⟨w.heap.size + 1 + 1, 0, none⟩ = some (.int .i64 s) := blk_cell D5.out.box 0 _ rfl
                have b1' : w5.cell? ⟨w.heap.size + 1 + 1, 1, none⟩ = some (.slice a done.length c) := blk_cell D5.out.box 1 _ rfl
                clear b5 DI e2 q0 q1 z0 z1 b0 b1 a1
                by_cases hz : checkOf s done = 0
                · have HG : Hid (decP 5 X = .ok (s, done)) := by
                    have h := HDP'.out
                    rw [if_pos hz] at h
                    exact h
                  rw [hz]
                  clear HDP' hz
                  go_wp2
                  refine bodyPost_ret (results_bat2 rfl (.inr rfl) _ _ rfl (set2_blk D5.out.zero _ _)) rfl ?_
                  exact DecEnd.good HG.out (OwnC.mono (D5.out.own.kept (set2_grown _ _ _ _) (fun g hg => by injection hg with hg; omega)) (by omega)) (D5.out.rq.up.grown (set2_grown _ _ _ _) D5.out.rq.up.size (fun g hg => by injection hg with hg; omega))
                · have HBD : Hid (∃ z, decP 5 X = .error z) := ⟨checkOf s done, by
                    have h := HDP'.out
                    rw [if_neg hz] at h
                    exact h⟩
                  have hz1 : (checkOf s done == 0) = false := by simp [hz]
                  have hz2 : (checkOf s done != 0) = true := by simp [hz]
                  clear HDP'
                  go_wp2
                  refine bodyPost_ret (results_bat2 rfl (.inr rfl) _ _ rfl (set2_blk D5.out.zero _ _)) rfl ?_
                  exact DecEnd.bad HBD.out hz (D5.out.rq.up.grown (set2_grown _ _ _ _) D5.out.rq.up.size (fun g hg => by injection hg with hg; omega))
          · have HBD : Hid (∃ z, decP 5 X = .error z) := by
              rcases LG0.out with h | h
              · exact absurd h.1 hy
              · exact HB4.out h.2
            clear LG0 HB4 HOK
            by_cases hlt : (k : Int) < (n : Int)
            · skip
              have e2 : wr.cell? ⟨w.heap.size + 1, 2, none⟩ = some (.int .i64 y) := blk_cell DI.out.rq.blk 2 _ rfl
              have q0 : wr.cell? ⟨w.heap.size, 0, none⟩ = some (.int .i64 0) := blk_cell DI.out.zero 0 _ rfl
              have q1 : wr.cell? ⟨w.heap.size, 1, none⟩ = some (.slice none 0 0) := blk_cell DI.out.zero 1 _ rfl
              have z0 := blk_frozen DI.out.zero 0
              have z1 := blk_frozen DI.out.zero 1
              have yy1 : (y == 0) = false := by first | decide | simp [hy]
              have yy2 : (y != 0) = true := by first | decide | simp [hy]
              go_wp2_with fail
              go_region
              all_goals
                go_wp2_with fail
                refine bodyPost_ret (results_bat2 rfl (.inr rfl) _ _ rfl (blk_up (set2_blk DI.out.zero _ _) (up_dr (Below.refl _ _)))) rfl ?_
                exact DecEnd.bad HBD.out hy (up_trans (DI.out.rq.up.grown (set2_grown _ _ _ _) DI.out.rq.up.size (fun g hg => by injection hg with hg; omega)) (up_dr (Below.refl _ _)))
            · skip
              have e2 : wr.cell? ⟨w.heap.size + 1, 2, none⟩ = some (.int .i64 y) := blk_cell DI.out.rq.blk 2 _ rfl
              have q0 : wr.cell? ⟨w.heap.size, 0, none⟩ = some (.int .i64 0) := blk_cell DI.out.zero 0 _ rfl
              have q1 : wr.cell? ⟨w.heap.size, 1, none⟩ = some (.slice none 0 0) := blk_cell DI.out.zero 1 _ rfl
              have z0 := blk_frozen DI.out.zero 0
              have z1 := blk_frozen DI.out.zero 1
              have yy1 : (y == 0) = false := by first | decide | simp [hy]
              have yy2 : (y != 0) = true := by first | decide | simp [hy]
              go_wp2_with fail
              go_region
              all_goals
                go_wp2_with fail
                refine bodyPost_ret (results_bat2 rfl (.inr rfl) _ _ rfl (blk_up (set2_blk DI.out.zero _ _) (up_dr (Below.refl _ _)))) rfl ?_
                exact DecEnd.bad HBD.out hy (up_trans (DI.out.rq.up.grown (set2_grown _ _ _ _) DI.out.rq.up.size (fun g hg => by injection hg with hg; omega)) (up_dr (Below.refl _ _)))
    · have hy := numQ_err (by decide) hq2
      have HBD : Hid (∃ z, decP 5 X = .error z) := dec_bad2 hq1 hq2
      have D2 : Hid (DInv w w2 X ax cx s none 0 [] j1 y) := D1'.out.call R2 G2
      have e2 : w2.cell? ⟨w.heap.size + 1, 2, none⟩ = some (.int .i64 y) := blk_cell D2.out.rq.blk 2 _ rfl
      have y1 : (y == 0) = false := by simp [hy]
      have y2 : (y != 0) = true := by simp [hy]
      clear R2 G2 D1' hq1 hq2
      go_wp2_with fail
      go_loopw [7] (fun i wr => i = .int .i64 0 ∧ Hid (DInv w wr X ax cx s none 0 [] j1 y)) (fun _ _ => 0)
      case atStart => exact ⟨rfl, D2⟩
      case round =>
        obtain ⟨rfl, DE⟩ := hrel
        clear D2
        clear e2
        have e2 : wr.cell? ⟨w.heap.size + 1, 2, none⟩ = some (.int .i64 y) := blk_cell DE.out.rq.blk 2 _ rfl
        have q0 : wr.cell? ⟨w.heap.size, 0, none⟩ = some (.int .i64 0) := blk_cell DE.out.zero 0 _ rfl
        have q1 : wr.cell? ⟨w.heap.size, 1, none⟩ = some (.slice none 0 0) := blk_cell DE.out.zero 1 _ rfl
        have z0 := blk_frozen DE.out.zero 0
        have z1 := blk_frozen DE.out.zero 1
        have yy1 : (y == 0) = false := by first | decide | simp [hy]
        have yy2 : (y != 0) = true := by first | decide | simp [hy]
        go_wp2_with fail
        go_region
        all_goals
          go_wp2_with fail
          refine bodyPost_ret (results_bat2 rfl (.inr rfl) _ _ rfl (blk_up (set2_blk DE.out.zero _ _) (up_dr (Below.refl _ _)))) rfl ?_
          exact DecEnd.bad HBD.out hy (up_trans (DE.out.rq.up.grown (set2_grown _ _ _ _) DE.out.rq.up.size (fun g hg => by injection hg with hg; omega)) (up_dr (Below.refl _ _)))
  · rw [List.drop_zero] at hq1
    have hy := numQ_err (by decide) hq1
    have HBD : Hid (∃ z, decP 5 X = .error z) := dec_bad1 hq1
    have D1 : Hid (DInv w w1 X ax cx 0 none 0 [] 0 y) := D0.out.call R1 G1
    have D1' : Hid (DInv w (w1.setCell ⟨w.heap.size + 1 + 1, 0, none⟩ (.int .i64 0)) X ax cx 0 none 0 [] 0 y) := D1.out.setSeq 0
    have b0 : w1.cell? ⟨w.heap.size + 1 + 1, 0, none⟩ = some (.int .i64 0) := blk_cell D1.out.box 0 _ rfl
    have bz := blk_frozen D1.out.box 0
    have y1 : (y == 0) = false := by simp [hy]
    have y2 : (y != 0) = true := by simp [hy]
    clear R1 G1 D0 hq1
    go_wp2_with fail
    generalize w1.setCell ⟨w.heap.size + 1 + 1, 0, none⟩ (.int .i64 0) = W1 at *
    clear b0 bz D1
    refine (refNum_err (w.heap.size + 1) X ax cx 0 y 1099511627776 4 w W1 D1'.out.rq hy).mono ?_
    rintro e w2 ⟨rfl, rfl⟩
    have e2 : w2.cell? ⟨w.heap.size + 1, 2, none⟩ = some (.int .i64 y) := blk_cell D1'.out.rq.blk 2 _ rfl
    go_wp2_with fail
    go_loopw [7] (fun i wr => i = .int .i64 0 ∧ Hid (DInv w wr X ax cx 0 none 0 [] 0 y)) (fun _ _ => 0)
    case atStart => exact ⟨rfl, D1'⟩
    case round =>
      obtain ⟨rfl, DE⟩ := hrel
      clear D1'
      clear e2
      have e2 : wr.cell? ⟨w.heap.size + 1, 2, none⟩ = some (.int .i64 y) := blk_cell DE.out.rq.blk 2 _ rfl
      have q0 : wr.cell? ⟨w.heap.size, 0, none⟩ = some (.int .i64 0) := blk_cell DE.out.zero 0 _ rfl
      have q1 : wr.cell? ⟨w.heap.size, 1, none⟩ = some (.slice none 0 0) := blk_cell DE.out.zero 1 _ rfl
      have z0 := blk_frozen DE.out.zero 0
      have z1 := blk_frozen DE.out.zero 1
      have yy1 : (y == 0) = false := by first | decide | simp [hy]
      have yy2 : (y != 0) = true := by first | decide | simp [hy]
      go_wp2_with fail
      go_region
      all_goals
        go_wp2_with fail
        refine bodyPost_ret (results_bat2 rfl (.inr rfl) _ _ rfl (blk_up (set2_blk DE.out.zero _ _) (up_dr (Below.refl _ _)))) rfl ?_
        exact DecEnd.bad HBD.out hy (up_trans (DE.out.rq.up.grown (set2_grown _ _ _ _) DE.out.rq.up.size (fun g hg => by injection hg with hg; omega)) (up_dr (Below.refl _ _)))
end Go.Proofs.Ytgphkddcfcmaiaa
