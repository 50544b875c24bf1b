/- Texts of layers 1 to 13, in this order. -/
import Derived.Test.YthiegmhplnbdlaaGreatG41
import Derived.Test.YthiegmhplnbdlaaGreatG12

namespace Go.Proofs.YthiegmhplnbdlaaGreat
open Go.RowKit SumPlain
set_option linter.unusedVariables false
def BatchEnd (w0 w : World) (N : Nat) (x : Except Int (Int × List Chg × List Int)) (e : Ending) (w' : World) : Prop :=
  match x with
  | .error y => e = panics y ∧ w.grownBy w' (some N)
  | .ok (s, cs, t) => ∃ a c, e = .returned (.agg #[.int .i64 s, .slice a cs.length c]) ∧ OwnC w' w.heap.size (.slice a cs.length c) cs ∧ Rd w0 w' N t ∧ w.grownBy w' (some N)
structure BInv (w0 w wr : World) (N M1 : Nat) (s : Int) (a : Option Addr) (c : Nat) (done : List Chg) (rest : List Int) : Prop where
  rd : Rd w0 wr N rest
  grown : w.grownBy wr (some N)
  zero : wr.heap[w.heap.size]? = some (.cells #[.int .i64 0, .slice none 0 0] 28)
  box : wr.heap[M1]? = some (.cells #[.int .i64 s, .slice a done.length c] 28)
  own : OwnC wr (M1 + 1) (.slice a done.length c) done
  n : N < w.heap.size
  m : w.heap.size < M1
  o : w0.heap.size ≤ w.heap.size
theorem BInv.up {w0 w wr w' : World} {N M1 : Nat} {s : Int} {a : Option Addr} {c : Nat} {done : List Chg} {rest : List Int} (h : BInv w0 w wr N M1 s a c done rest) (hb : Below wr.heap.size wr w') : BInv w0 w w' N M1 s a c done rest :=
  ⟨h.rd.up hb, grown_trans h.grown (grown_up hb _), blk_up h.zero hb, blk_up h.box hb, h.own.up hb, h.n, h.m, h.o⟩
theorem BInv.call {w0 w wr w' : World} {N M1 : Nat} {s : Int} {a : Option Addr} {c : Nat} {done : List Chg} {rest rest' : List Int} (h : BInv w0 w wr N M1 s a c done rest) (hr : Rd w0 w' N rest') (hg : wr.grownBy w' (some N)) : BInv w0 w w' N M1 s a c done rest' :=
  ⟨hr, grown_trans h.grown hg, blk_grown h.zero hg (by have := h.n; simp; omega), blk_grown h.box hg (by have := h.n; have := h.m; simp; omega), h.own.kept hg (fun g e => by have := h.n; have := h.m; injection e with e; omega), h.n, h.m, h.o⟩
theorem BInv.append {w0 w wr w3 : World} {N M1 : Nat} {s : Int} {a : Option Addr} {c : Nat} {done : List Chg} {rest : List Int} (h : BInv w0 w wr N M1 s a c done rest) {ch : Chg} {v3 : Value}
    (ho : OwnR w3 (M1 + 1) 75 3 v3 (done.map crow ++ [crow ch])) (hg : wr.grownBy w3 (Value.slice a done.length c).ownBlock) :
    ∃ a3 c3, v3 = .slice a3 (done.length + 1) c3 ∧ w3.cell? ⟨M1, 1, none⟩ = some (.slice a done.length c) ∧ w3.frozen? ⟨M1, 1, none⟩ = false ∧ BInv w0 w (w3.setCell ⟨M1, 1, none⟩ (.slice a3 (done.length + 1) c3)) N M1 s a3 c3 (done ++ [ch]) rest := by
  have hlen : (done ++ [ch]).length = done.length + 1 := by simp
  have ho' : OwnC w3 (M1 + 1) v3 (done ++ [ch]) := by
    unfold OwnC
    rw [List.map_append]
    exact ho
  obtain ⟨a3, c3, rfl⟩ := ho'.shape
  have hz := OwnR.keep h.own hg h.zero (by decide)
  have hb := OwnR.keep h.own hg h.box (by decide)
  have hr : Rd w0 w3 N rest := h.rd.grown hg (fun g e => by
    have h1 := (h.own.2.lt g e).1
    have := h.n; have := h.m; have := h.o
    omega)
  have hgr : w.grownBy w3 (some N) := by
    cases e : (Value.slice a done.length c).ownBlock with
    | none =>
      rw [e] at hg
      exact grown_trans h.grown ⟨hg.os, hg.tape, hg.output, hg.size, fun i hi hne => hg.block i hi (by simp)⟩
    | some g =>
      rw [e] at hg
      refine grown_newW h.grown hg ?_
      have := (h.own.2.lt g e).1
      have := h.m
      omega
  have hm := h.m
  have hn := h.n
  have ho0 := h.o
  rw [← hlen]
  refine ⟨a3, c3, rfl, blk_cell hb 1 _ rfl, blk_frozen hb 1, ?_⟩
  refine ⟨hr.grown (grown_set _ _ _) (fun g e => by simp at e; omega), grown_newW hgr (grown_set _ _ _) (by simp; omega), blk_grown hz (grown_set _ _ _) (by simp; omega), blk_set hb 1 _, ho'.kept (grown_set _ _ _) (fun g e => by simp at e; omega), h.n, h.m, h.o⟩
def addP (d : List Chg) : Except Int (List Chg × List Int) → Except Int (List Chg × List Int)
  | .error e => .error e
  | .ok (cs, t) => .ok (d ++ cs, t)
theorem addP_nil (x : Except Int (List Chg × List Int)) : addP [] x = x := by
  cases x <;> rfl
theorem addP_add (d : List Chg) (c : Chg) (x : Except Int (List Chg × List Int)) : addP d (addP [c] x) = addP (d ++ [c]) x := by
  cases x with
  | error e => rfl
  | ok v => simp [addP]
theorem chgsP_step (x : Int) (m : Nat) (l : List Int) (c : Chg) (r : List Int) (h : chgP x l = .ok (c, r)) : chgsP x (m + 1) l = addP [c] (chgsP x m r) := by
  simp only [chgsP, h]
  cases chgsP x m r <;> rfl
theorem chgsP_stop (x : Int) (m : Nat) (l : List Int) (y : Int) (h : chgP x l = .error y) : chgsP x (m + 1) l = .error y := by
  simp only [chgsP, h]
def withSeq (s : Int) : Except Int (List Chg × List Int) → Except Int (Int × List Chg × List Int)
  | .error e => .error e
  | .ok (cs, t) => .ok (s, cs, t)
set_option maxHeartbeats 2000000 in
set_option maxRecDepth 100000 in
theorem batch_loop (N : Nat) (l : List Int) (w0 w : World) (h : Rd w0 w N l) (s : Int) (r : List Int) (hp : numP 4 l = .ok (s, r)) (n : Nat) (q : List Int) (hq : numP 4 r = .ok ((n : Int), q)) (hn : n ≤ 64) :
    Calls Tryz.prog 100 #[.pointer (some ⟨N, 0, none⟩)] w fun e w' => BatchEnd w0 w N (withSeq s (chgsP 4 n q)) e w' := by
  have HN : Hid (N < w.heap.size ∧ w0.heap.size ≤ w.heap.size) := by obtain ⟨hb, _, a, c, h3, _⟩ := h; exact ⟨blk_lt h3, hb.size⟩
  have HC1 : Hid (∀ wx, Rd w0 wx N l → Calls Tryz.prog 114 #[.pointer (some ⟨N, 0, none⟩)] wx fun e w' => e = .returned (.int .i64 s) ∧ Hid (Rd w0 w' N r) ∧ Hid (wx.grownBy w' (some N))) := fun wx hx => number_ok N l w0 wx hx s r hp
  have HC2 : Hid (∀ wx, Rd w0 wx N r → Calls Tryz.prog 114 #[.pointer (some ⟨N, 0, none⟩)] wx fun e w' => e = .returned (.int .i64 (n : Int)) ∧ Hid (Rd w0 w' N q) ∧ Hid (wx.grownBy w' (some N))) := fun wx hx => number_ok N r w0 wx hx n q hq
  have HR : Hid (∀ o, Rd w0 (w.alloc o) N l) := fun o => h.up (up_alloc w o)
  have hn' : ¬ (64 : Int) < (n : Int) := by omega
  clear h hp hq
  go_enter Tryz.func100, Tryz.ntmps100
  go_wp2_with fail
  refine (HC1.out _ (HR.out _)).mono ?_
  rintro e w1 ⟨rfl, R1, g1⟩
  have G1 : Hid (w.grownBy w1 (some N)) := grown_trans (grown_up (up_alloc w _) _) g1.out
  have Z1 : Hid (w1.heap[w.heap.size]? = some (.cells #[.int .i64 0, .slice none 0 0] 28)) := blk_grown (blk_new w _) g1.out (by have := HN.out; simp; omega)
  clear g1
  go_wp2_with fail
  have B1 : Hid (BInv w0 w (w1.alloc (.cells #[.int .i64 s, .slice none 0 0] 28)) N w1.heap.size s none 0 [] r) := ⟨R1.out.up (up_alloc _ _), grown_trans G1.out (grown_up (up_alloc _ _) _), blk_up Z1.out (up_alloc _ _), blk_new _ _, OwnR.nil _ _ _ _, HN.out.1, blk_lt Z1.out, HN.out.2⟩
  generalize w1.alloc (.cells #[.int .i64 s, .slice none 0 0] 28) = wa at *
  generalize w1.heap.size = M1 at *
  refine (HC2.out wa B1.out.rd).mono ?_
  rintro e w2 ⟨rfl, R2, g2⟩
  have B2 : Hid (BInv w0 w w2 N M1 s none 0 [] q) := B1.out.call R2.out g2.out
  clear B1 R1 G1 Z1 R2 g2 HC1 HC2 HR
  go_wp2
  go_loopw [14] (fun i wr => ∃ (k : Nat) (done : List Chg) (rest : List Int) (a : Option Addr) (c : Nat), k ≤ n ∧ i = .int .i64 k ∧ Hid (done.length = k) ∧ Hid (chgsP 4 n q = addP done (chgsP 4 (n - k) rest)) ∧ Hid (BInv w0 w wr N M1 s a c done rest)) (fun i _ => n - (intOf i).toNat)
  case atStart => exact ⟨0, [], q, none, 0, Nat.zero_le _, rfl, rfl, (addP_nil _).symm, B2⟩
  case round =>
    clear B2
    obtain ⟨k, done, rest, a, c, hk, rfl, HK, HE, HB⟩ := hrel
    by_cases hlt : k < n
    · have hlt' : (k : Int) < (n : Int) := by omega
      have p1 : wr.cell? ⟨M1, 1, none⟩ = some (.slice a done.length c) := blk_cell HB.out.box 1 _ rfl
      have z1 := blk_frozen HB.out.box 1
      obtain ⟨m, hm⟩ : ∃ m, n - k = m + 1 := ⟨n - k - 1, by omega⟩
      rw [hm] at HE
      cases hc : chgP 4 rest with
      | error y =>
        have HE2 : Hid (chgsP 4 n q = .error y) := by
          have := HE.out
          rw [chgsP_stop 4 m rest y hc] at this
          exact this
        have HCB : Hid (Calls Tryz.prog 115 #[.pointer (some ⟨N, 0, none⟩)] wr.drew fun e w' => e = .panicked [{ v := .iface 29 (.int .i64 y), recovered := false }] ∧ Hid (w.grownBy w' (some N))) := by
          refine (change_bad N rest w0 wr.drew (HB.out.rd.up (up_dr (Below.refl _ _))) y hc).mono ?_
          rintro e w' ⟨rfl, g⟩
          exact ⟨rfl, grown_trans (grown_trans HB.out.grown (grown_up (up_dr (Below.refl _ _)) _)) g.out⟩
        have fin : ∀ w', w.grownBy w' (some N) → BatchEnd w0 w N (withSeq s (chgsP 4 n q)) (.panicked [{ v := .iface 29 (.int .i64 y), recovered := false }]) w' := by
          intro w' g
          rw [HE2.out]
          exact ⟨rfl, g⟩
        have FIN : Hid (∀ w', w.grownBy w' (some N) → BatchEnd w0 w N (withSeq s (chgsP 4 n q)) (.panicked [{ v := .iface 29 (.int .i64 y), recovered := false }]) w') := fin
        clear HE HE2 hc HB HK fin
        go_wp2_with fail
        refine wp_region_any (by kernel_rfl) ?_
        change wpAny _ _ _ _ _ _ _ (World.drew _)
        refine wpAny_take (i := 0) (v := ?_) rfl (by kernel_rfl) (by kernel_rfl) (by kernel_rfl) (fun _ _ _ h => h) (Or.inl ⟨by rfl, ?_⟩) ?_
        rotate_left
        focus (intro w; go_simp; (try with_reducible rfl); done)
        refine wpAny_take (i := 2) (v := ?_) rfl (by kernel_rfl) (by kernel_rfl) (by kernel_rfl) (fun _ _ _ h => h) (Or.inl ⟨by rfl, ?_⟩) ?_
        rotate_left
        focus (intro w; go_simp; (try with_reducible rfl); done)
        refine wpAny_ready (rs := [1, 3]) (by kernel_rfl) (by simp) ?_
        refine AllReady.cons rfl (fun K hK => ?_) (AllReady.cons rfl (fun K hK => ?_) AllReady.nil)
        · go_simp
          refine hK _ _ ?_
          clear hK K
          refine wpAny_ready (rs := [3]) (by kernel_rfl) (by simp) ?_
          refine AllReady.cons rfl (fun K hK => ?_) AllReady.nil
          go_simp
          refine HCB.out.mono ?_
          rintro e w' ⟨rfl, g2⟩
          exact ⟨rfl, FIN.out _ g2.out⟩
        · go_simp
          refine HCB.out.mono ?_
          rintro e w' ⟨rfl, g2⟩
          exact ⟨rfl, FIN.out _ g2.out⟩
      | ok v =>
        obtain ⟨ch, rest'⟩ := v
        have HE2 : Hid (chgsP 4 n q = addP (done ++ [ch]) (chgsP 4 m rest')) := by
          have := HE.out
          rw [chgsP_step 4 m rest ch rest' hc, addP_add] at this
          exact this
        obtain ⟨ck, cd, cv⟩ := ch
        have HCO : Hid (Calls Tryz.prog 115 #[.pointer (some ⟨N, 0, none⟩)] wr.drew fun e w' => e = .returned (.agg #[.string ck, .bool cd, .string cv]) ∧ w'.cell? ⟨M1, 1, none⟩ = some (.slice a done.length c) ∧ Hid (BInv w0 w w' N M1 s a c done rest')) := by
          refine (change_ok N rest w0 wr.drew (HB.out.rd.up (up_dr (Below.refl _ _))) ⟨ck, cd, cv⟩ rest' hc).mono ?_
          rintro e w' ⟨rfl, R, g⟩
          have b := (HB.out.up (up_dr (Below.refl _ _))).call R.out g.out
          exact ⟨rfl, blk_cell b.box 1 _ rfl, b⟩
        have HE3 : Hid (chgsP 4 n q = addP (done ++ [⟨ck, cd, cv⟩]) (chgsP 4 (n - (k + 1)) rest')) := by
          have e : n - (k + 1) = m := by omega
          unfold Hid
          rw [e]
          exact HE2.out
        have HKL : Hid (done.length ≤ 64) := by have := HK.out; unfold Hid; omega
        have HM1 : Hid ((((done.map crow).length + [crow ⟨ck, cd, cv⟩].length) + ((done.map crow).length + [crow ⟨ck, cd, cv⟩].length) / 4 + 192) * 40 ≤ 281474976710656) := by have := HKL.out; unfold Hid; simp; omega
        have HM2 : Hid ((done.map crow).length + [crow ⟨ck, cd, cv⟩].length ≤ maxLen) := by have := HKL.out; unfold Hid maxLen; simp; omega
        have HR : Hid (∀ w' : World, Rws 3 (w'.alloc (.cells #[.string ck, .bool cd, .string cv] 75)) (.slice (some ⟨w'.heap.size, 0, none⟩) 1 1) [crow ⟨ck, cd, cv⟩]) := fun w' => Rws.made (sz := 3) w' 75 [[.string ck, .bool cd, .string cv]] (by simp) (by simp [maxLen])
        have H1 : Hid (∀ r ∈ [crow ⟨ck, cd, cv⟩], ∀ u ∈ r, u.oneCell' = true) := crow_one [⟨ck, cd, cv⟩]
        clear HE HE2 hc HB hm
        go_wp2_with fail
        refine wp_region_any (by kernel_rfl) ?_
        change wpAny _ _ _ _ _ _ _ (World.drew _)
        refine wpAny_take (i := 0) (v := ?_) rfl (by kernel_rfl) (by kernel_rfl) (by kernel_rfl) (fun _ _ _ h => h) (Or.inl ⟨by rfl, ?_⟩) ?_
        rotate_left
        focus (intro w; go_simp; (try with_reducible rfl); done)
        refine wpAny_take (i := 2) (v := ?_) rfl (by kernel_rfl) (by kernel_rfl) (by kernel_rfl) (fun _ _ _ h => h) (Or.inl ⟨by rfl, ?_⟩) ?_
        rotate_left
        focus (intro w; go_simp; (try with_reducible rfl); done)
        refine wpAny_ready (rs := [1, 3]) (by kernel_rfl) (by simp) ?_
        refine AllReady.cons rfl (fun K hK => ?_) (AllReady.cons rfl (fun K hK => ?_) AllReady.nil)
        · go_simp
          refine hK _ _ ?_
          clear hK K
          refine wpAny_ready (rs := [3]) (by kernel_rfl) (by simp) ?_
          refine AllReady.cons rfl (fun K hK => ?_) AllReady.nil
          go_simp
          refine HCO.out.mono ?_
          rintro e w2 ⟨rfl, p2, B2⟩
          have p2' : ∀ o, (w2.alloc o).cell? ⟨M1, 1, none⟩ = some (.slice a done.length c) := fun o => blk_cell (blk_up B2.out.box (up_alloc w2 o)) 1 _ rfl
          have B3 : Hid (BInv w0 w (w2.alloc (.cells #[.string ck, .bool cd, .string cv] 75)) N M1 s a c done rest') := B2.out.up (up_alloc _ _)
          refine hK _ _ ?_
          clear hK K
          refine wpAny_ready (rs := [4]) (by kernel_rfl) (by simp) ?_
          refine AllReady.cons rfl (fun K hK => ?_) AllReady.nil
          go_simp
          refine hK _ _ ?_
          clear hK K
          refine wpAny_ready (rs := [5]) (by kernel_rfl) (by simp) ?_
          refine AllReady.cons rfl (fun K hK => ?_) AllReady.nil
          refine step_append_rows _ (by rfl) _ _ 26 75 _ 3 40 (by rfl) Tryz.underlying26 Tryz.info75 (by rfl) (by decide) (M1 + 1) (.slice a done.length c) (done.map crow) (by rfl) B3.out.own (.slice (some ⟨w2.heap.size, 0, none⟩) 1 1) [crow ⟨ck, cd, cv⟩] (by rfl) (HR.out _) (H1.out) HM1.out HM2.out (blk_lt B3.out.box) ?_
          intro v3 w3 o3 g3
          obtain ⟨a3, c3, rfl, p3, z3, B4⟩ := B3.out.append o3 g3
          have B5 : Hid (BInv w0 w (w3.setCell ⟨M1, 1, none⟩ (.slice a3 (done.length + 1) c3)) N M1 s a3 c3 (done ++ [⟨ck, cd, cv⟩]) rest') := B4
          clear B4 o3 g3 B3 B2 p2 p2'
          refine hK _ _ ?_
          clear hK K
          refine wpAny_take (i := 6) (v := ?_) rfl (by kernel_rfl) (by kernel_rfl) (by kernel_rfl) (fun _ _ _ h => h) (Or.inl ⟨by rfl, ?_⟩) ?_
          rotate_left
          focus (intro w; go_simp; (try with_reducible rfl); done)
          refine wpAny_ready (rs := [7]) (by kernel_rfl) (by simp) ?_
          refine AllReady.cons rfl (fun K hK => ?_) AllReady.nil
          go_simp
          refine hK _ _ ?_
          clear hK K
          refine wpAny_done (by kernel_rfl) ?_ _
          go_wp2
          exact ⟨⟨k + 1, done ++ [⟨ck, cd, cv⟩], rest', a3, c3, hlt, by go_num, by unfold Hid; rw [List.length_append, HK.out]; rfl, HE3, B5⟩, by simp [intOf]; omega⟩
        · go_simp
          refine HCO.out.mono ?_
          rintro e w2 ⟨rfl, p2, B2⟩
          have p2' : ∀ o, (w2.alloc o).cell? ⟨M1, 1, none⟩ = some (.slice a done.length c) := fun o => blk_cell (blk_up B2.out.box (up_alloc w2 o)) 1 _ rfl
          have B3 : Hid (BInv w0 w (w2.alloc (.cells #[.string ck, .bool cd, .string cv] 75)) N M1 s a c done rest') := B2.out.up (up_alloc _ _)
          refine hK _ _ ?_
          clear hK K
          refine wpAny_ready (rs := [1, 4]) (by kernel_rfl) (by simp) ?_
          refine AllReady.cons rfl (fun K hK => ?_) (AllReady.cons rfl (fun K hK => ?_) AllReady.nil)
          · go_simp
            refine hK _ _ ?_
            clear hK K
            refine wpAny_ready (rs := [4]) (by kernel_rfl) (by simp) ?_
            refine AllReady.cons rfl (fun K hK => ?_) AllReady.nil
            go_simp
            refine hK _ _ ?_
            clear hK K
            refine wpAny_ready (rs := [5]) (by kernel_rfl) (by simp) ?_
            refine AllReady.cons rfl (fun K hK => ?_) AllReady.nil
            refine step_append_rows _ (by rfl) _ _ 26 75 _ 3 40 (by rfl) Tryz.underlying26 Tryz.info75 (by rfl) (by decide) (M1 + 1) (.slice a done.length c) (done.map crow) (by rfl) B3.out.own (.slice (some ⟨w2.heap.size, 0, none⟩) 1 1) [crow ⟨ck, cd, cv⟩] (by rfl) (HR.out _) (H1.out) HM1.out HM2.out (blk_lt B3.out.box) ?_
            intro v3 w3 o3 g3
            obtain ⟨a3, c3, rfl, p3, z3, B4⟩ := B3.out.append o3 g3
            have B5 : Hid (BInv w0 w (w3.setCell ⟨M1, 1, none⟩ (.slice a3 (done.length + 1) c3)) N M1 s a3 c3 (done ++ [⟨ck, cd, cv⟩]) rest') := B4
            clear B4 o3 g3 B3 B2 p2 p2'
            refine hK _ _ ?_
            clear hK K
            refine wpAny_take (i := 6) (v := ?_) rfl (by kernel_rfl) (by kernel_rfl) (by kernel_rfl) (fun _ _ _ h => h) (Or.inl ⟨by rfl, ?_⟩) ?_
            rotate_left
            focus (intro w; go_simp; (try with_reducible rfl); done)
            refine wpAny_ready (rs := [7]) (by kernel_rfl) (by simp) ?_
            refine AllReady.cons rfl (fun K hK => ?_) AllReady.nil
            go_simp
            refine hK _ _ ?_
            clear hK K
            refine wpAny_done (by kernel_rfl) ?_ _
            go_wp2
            exact ⟨⟨k + 1, done ++ [⟨ck, cd, cv⟩], rest', a3, c3, hlt, by go_num, by unfold Hid; rw [List.length_append, HK.out]; rfl, HE3, B5⟩, by simp [intOf]; omega⟩
          · go_simp
            refine hK _ _ ?_
            clear hK K
            refine wpAny_ready (rs := [1]) (by kernel_rfl) (by simp) ?_
            refine AllReady.cons rfl (fun K hK => ?_) AllReady.nil
            go_simp
            refine hK _ _ ?_
            clear hK K
            refine wpAny_ready (rs := [5]) (by kernel_rfl) (by simp) ?_
            refine AllReady.cons rfl (fun K hK => ?_) AllReady.nil
            refine step_append_rows _ (by rfl) _ _ 26 75 _ 3 40 (by rfl) Tryz.underlying26 Tryz.info75 (by rfl) (by decide) (M1 + 1) (.slice a done.length c) (done.map crow) (by rfl) B3.out.own (.slice (some ⟨w2.heap.size, 0, none⟩) 1 1) [crow ⟨ck, cd, cv⟩] (by rfl) (HR.out _) (H1.out) HM1.out HM2.out (blk_lt B3.out.box) ?_
            intro v3 w3 o3 g3
            obtain ⟨a3, c3, rfl, p3, z3, B4⟩ := B3.out.append o3 g3
            have B5 : Hid (BInv w0 w (w3.setCell ⟨M1, 1, none⟩ (.slice a3 (done.length + 1) c3)) N M1 s a3 c3 (done ++ [⟨ck, cd, cv⟩]) rest') := B4
            clear B4 o3 g3 B3 B2 p2 p2'
            refine hK _ _ ?_
            clear hK K
            refine wpAny_take (i := 6) (v := ?_) rfl (by kernel_rfl) (by kernel_rfl) (by kernel_rfl) (fun _ _ _ h => h) (Or.inl ⟨by rfl, ?_⟩) ?_
            rotate_left
            focus (intro w; go_simp; (try with_reducible rfl); done)
            refine wpAny_ready (rs := [7]) (by kernel_rfl) (by simp) ?_
            refine AllReady.cons rfl (fun K hK => ?_) AllReady.nil
            go_simp
            refine hK _ _ ?_
            clear hK K
            refine wpAny_done (by kernel_rfl) ?_ _
            go_wp2
            exact ⟨⟨k + 1, done ++ [⟨ck, cd, cv⟩], rest', a3, c3, hlt, by go_num, by unfold Hid; rw [List.length_append, HK.out]; rfl, HE3, B5⟩, by simp [intOf]; omega⟩
    · have hlt' : ¬ (k : Int) < (n : Int) := by omega
      obtain rfl : k = n := by omega
      have HE2 : Hid (chgsP 4 k q = .ok (done, rest)) := by
        have e := HE.out
        rw [Nat.sub_self] at e
        unfold Hid
        simpa [chgsP, addP] using e
      have p0 : wr.cell? ⟨M1, 0, none⟩ = some (.int .i64 s) := blk_cell HB.out.box 0 _ rfl
      have p1 : wr.cell? ⟨M1, 1, none⟩ = some (.slice a done.length c) := blk_cell HB.out.box 1 _ rfl
      have q0 : wr.cell? ⟨w.heap.size, 0, none⟩ = some (.int .i64 0) := blk_cell HB.out.zero 0 _ rfl
      have q1 : wr.cell? ⟨w.heap.size, 1, none⟩ = some (.slice none 0 0) := blk_cell HB.out.zero 1 _ rfl
      have z0 := blk_frozen HB.out.zero 0
      have z1 := blk_frozen HB.out.zero 1
      clear HE HK
      go_wp2
      refine bodyPost_ret (results_bat rfl (.inl rfl) _ _ rfl (set2_blkF HB.out.zero _ _)) rfl ?_
      have hm := HB.out.m
      have hn := HB.out.n
      have ho := HB.out.o
      rw [HE2.out]
      exact ⟨_, _, rfl, OwnC.mono (base := M1 + 1) (HB.out.own.kept (set2_grownF _ _ _ _) (fun g e => by injection e with e; omega)) (by omega), HB.out.rd.grown (set2_grownF _ _ _ _) (fun g e => by injection e with e; omega), grown_newW HB.out.grown (set2_grownF _ _ _ _) (Nat.le_refl _)⟩
end Go.Proofs.YthiegmhplnbdlaaGreat

namespace Go.Proofs.YthiegmhplnbdlaaGreat
open Go.RowKit SumPlain
set_option linter.unusedVariables false
set_option maxHeartbeats 1000000 in
theorem batch_bad1 (N : Nat) (l : List Int) (w0 w : World) (h : Rd w0 w N l) (x : Int) (hp : numP 4 l = .error x) :
    Calls Tryz.prog 100 #[.pointer (some ⟨N, 0, none⟩)] w fun e w' => e = panics x ∧ Hid (w.grownBy w' (some N)) := by
  have HR : Hid (∀ o, Rd w0 (w.alloc o) N l) := fun o => h.up (up_alloc w o)
  clear h
  go_enter Tryz.func100, Tryz.ntmps100
  go_wp2_with fail
  refine (number_bad N l w0 _ (HR.out _) x hp).mono ?_
  rintro e w1 ⟨rfl, g1⟩
  unfold panics
  go_wp2
  exact ⟨rfl, rfl, grown_trans (grown_up (up_alloc w _) _) g1.out⟩
set_option maxHeartbeats 1000000 in
theorem batch_bad2 (N : Nat) (l : List Int) (w0 w : World) (h : Rd w0 w N l) (s : Int) (r : List Int) (hp : numP 4 l = .ok (s, r)) (x : Int) (hq : numP 4 r = .error x) :
    Calls Tryz.prog 100 #[.pointer (some ⟨N, 0, none⟩)] w fun e w' => e = panics x ∧ Hid (w.grownBy w' (some N)) := by
  have HR : Hid (∀ o, Rd w0 (w.alloc o) N l) := fun o => h.up (up_alloc w o)
  have HC1 : Hid (∀ wx, Rd w0 wx N l → Calls Tryz.prog 114 #[.pointer (some ⟨N, 0, none⟩)] wx fun e w' => e = .returned (.int .i64 s) ∧ Hid (Rd w0 w' N r) ∧ Hid (wx.grownBy w' (some N))) := fun wx hx => number_ok N l w0 wx hx s r hp
  clear h hp
  go_enter Tryz.func100, Tryz.ntmps100
  go_wp2_with fail
  refine (HC1.out _ (HR.out _)).mono ?_
  rintro e w1 ⟨rfl, R1, g1⟩
  have G1 : Hid (w.grownBy w1 (some N)) := grown_trans (grown_up (up_alloc w _) _) g1.out
  clear g1
  go_wp2_with fail
  refine (number_bad N r w0 _ (R1.out.up (up_alloc _ _)) x hq).mono ?_
  rintro e w2 ⟨rfl, g2⟩
  unfold panics
  go_wp2
  exact ⟨rfl, rfl, grown_trans (grown_trans G1.out (grown_up (up_alloc _ _) _)) g2.out⟩
set_option maxHeartbeats 1000000 in
theorem batch_many (N : Nat) (l : List Int) (w0 w : World) (h : Rd w0 w N l) (s : Int) (r : List Int) (hp : numP 4 l = .ok (s, r)) (n : Int) (q : List Int) (hq : numP 4 r = .ok (n, q)) (hn : 64 < n) :
    Calls Tryz.prog 100 #[.pointer (some ⟨N, 0, none⟩)] w fun e w' => e = panics 3 ∧ Hid (w.grownBy w' (some N)) := by
  have HR : Hid (∀ o, Rd w0 (w.alloc o) N l) := fun o => h.up (up_alloc w o)
  have HC1 : Hid (∀ wx, Rd w0 wx N l → Calls Tryz.prog 114 #[.pointer (some ⟨N, 0, none⟩)] wx fun e w' => e = .returned (.int .i64 s) ∧ Hid (Rd w0 w' N r) ∧ Hid (wx.grownBy w' (some N))) := fun wx hx => number_ok N l w0 wx hx s r hp
  have HC2 : Hid (∀ wx, Rd w0 wx N r → Calls Tryz.prog 114 #[.pointer (some ⟨N, 0, none⟩)] wx fun e w' => e = .returned (.int .i64 n) ∧ Hid (Rd w0 w' N q) ∧ Hid (wx.grownBy w' (some N))) := fun wx hx => number_ok N r w0 wx hx n q hq
  clear h hp hq
  go_enter Tryz.func100, Tryz.ntmps100
  go_wp2_with fail
  refine (HC1.out _ (HR.out _)).mono ?_
  rintro e w1 ⟨rfl, R1, g1⟩
  have G1 : Hid (w.grownBy w1 (some N)) := grown_trans (grown_up (up_alloc w _) _) g1.out
  clear g1
  go_wp2_with fail
  refine (HC2.out _ (R1.out.up (up_alloc _ _))).mono ?_
  rintro e w2 ⟨rfl, R2, g2⟩
  have G2 : Hid (w.grownBy w2 (some N)) := grown_trans (grown_trans G1.out (grown_up (up_alloc _ _) _)) g2.out
  clear g2
  go_wp2
  exact ⟨rfl, rfl, G2⟩
theorem batch_any (N : Nat) (l : List Int) (w0 w : World) (h : Rd w0 w N l) :
    Calls Tryz.prog 100 #[.pointer (some ⟨N, 0, none⟩)] w fun e w' => BatchEnd w0 w N (batchP 4 l) e w' := by
  have hx : ∀ y ∈ l, 0 ≤ y ∧ y ≤ 255 := by obtain ⟨_, _, _, _, _, h4⟩ := h; exact h4.1
  unfold batchP
  cases hp : numP 4 l with
  | error x =>
    refine (batch_bad1 N l w0 w h x hp).mono ?_
    rintro e w' ⟨rfl, g⟩
    exact ⟨rfl, g.out⟩
  | ok v =>
    obtain ⟨s, r⟩ := v
    simp only
    obtain ⟨_, _, hr⟩ := numP_bounds hx hp
    cases hq : numP 4 r with
    | error x =>
      refine (batch_bad2 N l w0 w h s r hp x hq).mono ?_
      rintro e w' ⟨rfl, g⟩
      exact ⟨rfl, g.out⟩
    | ok v =>
      obtain ⟨n, q⟩ := v
      simp only
      obtain ⟨n0, _, _⟩ := numP_bounds hr hq
      by_cases hn : 64 < n
      · rw [if_pos hn]
        refine (batch_many N l w0 w h s r hp n q hq hn).mono ?_
        rintro e w' ⟨rfl, g⟩
        exact ⟨rfl, g.out⟩
      · rw [if_neg hn]
        obtain ⟨m, rfl⟩ : ∃ m : Nat, n = (m : Int) := ⟨n.toNat, by omega⟩
        rw [Int.toNat_natCast]
        refine (batch_loop N l w0 w h s r hp m q hq (by omega)).mono ?_
        intro e w' hb
        cases hc : chgsP 4 m q with
        | error x => rw [hc] at hb; exact hb
        | ok v => rw [hc] at hb; obtain ⟨cs, t⟩ := v; exact hb
theorem Tryz.assert29 (v : Value) (w : World) : (Instr.typeAssert (.iface 29 v) 20 29 false).run Tryz.prog w = .ok v w := by kernel_rfl
theorem catch_panicking (p : Addr) (x y : Int) (older : List PanicEntry) (w : World) (hc : w.cell? p = some (.int .i64 x)) (hz : w.frozen? p = false) :
    CallsD Tryz.prog 99 #[.pointer (some p)] (.panicking ({ v := .iface 29 (.int .i64 y), recovered := false } :: older)) w fun e u' w' =>
      e = .returned (.tuple #[]) ∧ u' = .panicking ({ v := .iface 29 (.int .i64 y), recovered := true } :: older) ∧ w' = w.setCell p (.int .i64 y) := by
  refine callsD_of_wpS Tryz.func99 rfl fun c₀ cs hu => ?_
  apply wpS_seq
  apply wpS_region
  simp [wpOpsS, go_sem, recoverD, hu, Tryz.ntmps99, Exit.thenS]
  apply wpS_seq
  apply wpS_seq
  apply wpS_region
  simp [wpOpsS, go_sem, Exit.thenS]
  refine wpS_cond (t := false) (by simp [Act.eval, Array.replicate]) ?_
  simp only [Bool.false_eq_true, if_false]
  refine wpS_of_wp (wp_skip ?_)
  simp only [Exit.thenS]
  apply wpS_region
  simp [wpOpsS, go_sem, Tryz.assert29, hc, hz, bodyPostS, results, Tryz.results99]
theorem catch_idle (p : Addr) (w : World) :
    CallsD Tryz.prog 99 #[.pointer (some p)] .returning w fun e u' w' => e = .returned (.tuple #[]) ∧ u' = .returning ∧ w' = w := by
  refine callsD_of_wpS Tryz.func99 rfl fun c₀ cs hu => ?_
  apply wpS_seq
  apply wpS_region
  simp [wpOpsS, go_sem, recoverD, hu, Tryz.ntmps99, Exit.thenS]
  apply wpS_seq
  apply wpS_seq
  apply wpS_region
  simp [wpOpsS, go_sem, Exit.thenS]
  refine wpS_cond (t := true) (by simp [Act.eval, Array.replicate]) ?_
  simp only [if_true]
  refine wpS_of_wp (wp_ret ?_)
  cases c₀
  simp_all [bodyPostS, results, Tryz.results99, Exit.thenS]
end Go.Proofs.YthiegmhplnbdlaaGreat
