/- Entries of layer 6: the error, or the versions in memory of the call's own. -/
import Derived.Test.YtgphkddcfcmaiaaWLaw
namespace Go.Proofs.Ytgphkddcfcmaiaa
open Go.RowKit SumPlain
set_option linter.unusedVariables false

/-- A version's cells. -/
def erow (s : Int) (c : Chg) : List Value := [.string c.key, .int .i64 s, .int .i64 (kindN c), .string c.val]
def entL (s : Int) : List Chg → List (List Value)
  | [] => []
  | c :: r => erow s c :: entL (s + 1) r
theorem entL_len (s : Int) : ∀ (cs : List Chg), (entL s cs).length = cs.length := by
  intro cs
  induction cs generalizing s with
  | nil => rfl
  | cons c r ih => simp [entL, ih]
theorem entL_append (s : Int) : ∀ (a b : List Chg), entL s (a ++ b) = entL s a ++ entL (s + (a.length : Int)) b := by
  intro a
  induction a generalizing s with
  | nil => intro b; simp [entL]
  | cons c r ih =>
    intro b
    simp only [List.cons_append, entL, ih, List.length_cons]
    congr 3
    omega
theorem entL_at (s : Int) (cs : List Chg) (k : Nat) (c : Chg) (h : cs[k]? = some c) : (entL s cs)[k]? = some (erow (s + (k : Int)) c) := by
  induction cs generalizing s k with
  | nil => simp at h
  | cons d r ih =>
    cases k with
    | zero => simp at h; subst h; simp [entL]
    | succ k =>
      simp only [List.getElem?_cons_succ] at h
      simp only [entL, List.getElem?_cons_succ]
      rw [ih (s + 1) k h]
      congr 2
      omega

/-- What lies in blocks of another type stays when owned rows grow. -/
theorem OwnR.keep {w w' : World} {base : Nat} {e t : TypeId} {sz : Nat} {v : Value} {css : List (List Value)} {B : Nat} {cs : Array Value} {fr : Nat × Nat} (h : OwnR w base e sz v css) (hg : w.grownBy w' v.ownBlock) (hb : w.heap[B]? = some (.cells cs t fr)) (hne : e ≠ t) : w'.heap[B]? = some (.cells cs t fr) :=
  blk_grown hb hg (fun q => by
    rcases own_blk_ne h.2 hb hne with r | r
    · rw [r] at q; cases q
    · exact r q.symm)
theorem OwnR.shape {w : World} {base : Nat} {e : TypeId} {sz : Nat} {v : Value} {css : List (List Value)} (h : OwnR w base e sz v css) : ∃ a n c, v = .slice a n c := by
  obtain ⟨a, c, e, _⟩ := (Rws.own h).len
  exact ⟨a, _, c, e⟩

theorem Try.info69 : (Try.prog.info? 69).map (fun i => (i.zero, i.size, i.bytes)) = some (some (.agg #[.string ⟨#[]⟩, .int .i64 0, .int .i64 0, .string ⟨#[]⟩]), 4, 48) := by kernel_rfl

theorem entries_bad (s : Int) (cs : List Chg) (a : Option Addr) (c : Nat) (w : World) (hv : ChgsR w (.slice a cs.length c) cs) (h : checkOf s cs ≠ 0) :
    Calls Try.prog 15 #[.agg #[.int .i64 s, .slice a cs.length c]] w fun e w' => e = .returned (.tuple #[.slice none 0 0, .int .i64 (checkOf s cs)]) ∧ Below w.heap.size w w' := by
  have HV : Hid (∀ o, ChgsR (w.alloc o) (.slice a cs.length c) cs) := fun o => hv.up (up_alloc w o)
  have hz' : (checkOf s cs == 0) = false := by simp [h]
  clear hv
  go_enter Try.func15, Try.ntmps15
  go_wp2_with fail
  refine (check_any s cs a c _ (HV.out _)).mono ?_
  rintro e w1 ⟨rfl, b1⟩
  have HB : Hid (Below w.heap.size w w1) := up_trans (up_alloc w _) b1
  clear b1
  go_wp2
  go_ret2
  exact ⟨rfl, HB.out⟩

theorem wrap64_id (n : Int) (h0 : 0 ≤ n) (h1 : n ≤ 9223372036854775807) : IntKind.i64.wrap n = n := by
  simp [IntKind.wrap, IntKind.bits, IntKind.signed]; omega

set_option maxHeartbeats 1000000 in
set_option maxRecDepth 100000 in
theorem entries_good (s : Int) (cs : List Chg) (a : Option Addr) (c : Nat) (w : World) (hv : ChgsR w (.slice a cs.length c) cs) (h : checkOf s cs = 0) :
    Calls Try.prog 15 #[.agg #[.int .i64 s, .slice a cs.length c]] w fun e w' => ∃ a' n' c', e = .returned (.tuple #[.slice a' n' c', .int .i64 0]) ∧ Hid (OwnR w' w.heap.size 69 4 (.slice a' n' c') (entL s cs)) ∧ Hid (Below w.heap.size w w') := by
  obtain ⟨hs, hn, hc⟩ := checkOf_ok h
  have HV : Hid (ChgsR w (.slice a cs.length c) cs) := hv
  have HC : Hid (Calls Try.prog 21 #[.agg #[.int .i64 s, .slice a cs.length c]] (w.alloc (.cells #[.int .i64 s, .slice a cs.length c] 26)) fun e w' => e = .returned (.int .i64 0) ∧ Below (w.alloc (.cells #[.int .i64 s, .slice a cs.length c] 26)).heap.size (w.alloc (.cells #[.int .i64 s, .slice a cs.length c] 26)) w') := by
    have := check_any s cs a c (w.alloc (.cells #[.int .i64 s, .slice a cs.length c] 26)) (hv.up (up_alloc w _))
    rw [h] at this
    exact this
  have B0 : Hid ((w.alloc (.cells #[.int .i64 s, .slice a cs.length c] 26)).heap[w.heap.size]? = some (.cells #[.int .i64 s, .slice a cs.length c] 26)) := blk_new w _
  have U0 : Hid (Below w.heap.size w (w.alloc (.cells #[.int .i64 s, .slice a cs.length c] 26))) := up_alloc w _
  have S0 : Hid ((w.alloc (.cells #[.int .i64 s, .slice a cs.length c] 26)).heap.size = w.heap.size + 1) := by unfold Hid; simp
  have hn64 : cs.length ≤ 64 := hn.2
  clear hv h hn hc
  go_enter Try.func15, Try.ntmps15
  go_wp2_with fail
  refine HC.out.mono ?_
  rintro e w1 ⟨rfl, b1⟩
  have B1 : Hid (w1.heap[w.heap.size]? = some (.cells #[.int .i64 s, .slice a cs.length c] 26)) := blk_up B0.out b1
  have U1 : Hid (Below w.heap.size w w1) := up_trans U0.out b1
  have S1 : Hid (w.heap.size + 1 ≤ w1.heap.size) := by have := b1.size; have := S0.out; unfold Hid; omega
  clear b1 B0 U0 S0 HC
  have p0 := blk_cell B1.out 0 _ rfl
  have p1 := blk_cell B1.out 1 _ rfl
  go_wp2
  go_loopw [16, 5] (fun i x wr => ∃ (k : Nat) (ax : Option Addr) (nx cx : Nat), k ≤ cs.length ∧ i = .int .i64 k ∧ x = .slice ax nx cx ∧ Hid (OwnR wr (w.heap.size + 1) 69 4 (.slice ax nx cx) (entL s (cs.take k))) ∧ Hid (Below w.heap.size w wr) ∧ Hid (wr.heap[w.heap.size]? = some (.cells #[.int .i64 s, .slice a cs.length c] 26))) (fun i _ _ => cs.length - (intOf i).toNat)
  case atStart => exact ⟨0, _, _, _, Nat.zero_le _, rfl, rfl, OwnR.nil _ _ _ _, U1, B1⟩
  case round =>
    clear p0 p1 B1 U1 S1
    obtain ⟨k, ax, nx, cx, hk, rfl, rfl, HO, HB, HD⟩ := hrel
    by_cases hlt : k < cs.length
    · have hlt' : (k : Int) < (cs.length : Int) := by omega
      obtain ⟨b, off, cap, ch, e, q1, q2, hcs, c0, c1, c2⟩ := (HV.out.up HB.out).at k hlt
      simp at e
      obtain ⟨rfl, rfl⟩ := e
      have HT : Hid (entL s (cs.take (k + 1)) = entL s (cs.take k) ++ [erow (s + (k : Int)) ch]) := by
        unfold Hid
        rw [List.take_add_one, hcs, entL_append, List.length_take, Nat.min_eq_left (by omega)]
        rfl
      have HM : Hid ((entL s (cs.take k)).length ≤ 64) := by
        unfold Hid
        rw [entL_len, List.length_take]; omega
      generalize hL : entL s (cs.take k) = L at HO HM HT
      clear hL hcs
      have gw : IntKind.i64.wrap (s + (k : Int)) = s + (k : Int) := wrap64_id _ (by omega) (by omega)
      obtain ⟨ck, cd, cv⟩ := ch
      have D1 : Hid ((wr.alloc (.cells #[.string ck, .bool cd, .string cv] 67)).heap[wr.heap.size]? = some (.cells #[.string ck, .bool cd, .string cv] 67)) := blk_new wr _
      have E1 : Hid ((wr.alloc (.cells #[.string ck, .bool cd, .string cv] 67)).heap[w.heap.size]? = some (.cells #[.int .i64 s, .slice (some ⟨b, off, none⟩) cs.length c] 26)) := blk_up HD.out (up_alloc _ _)
      have HO1 : Hid (OwnR (wr.alloc (.cells #[.string ck, .bool cd, .string cv] 67)) (w.heap.size + 1) 69 4 (.slice ax nx cx) L) := HO.out.up (up_alloc _ _)
      have HB1 : Hid (Below w.heap.size w (wr.alloc (.cells #[.string ck, .bool cd, .string cv] 67))) := up_trans HB.out (up_alloc _ _)
      generalize hk' : kindN ⟨ck, cd, cv⟩ = kd at *
      have HK : Hid (∀ wx, Calls Try.prog 32 #[.agg #[.string ck, .bool cd, .string cv]] wx fun e w' => e = .returned (.int .i64 kd) ∧ Below wx.heap.size wx w') := fun wx => hk' ▸ kindOf_any ⟨ck, cd, cv⟩ wx
      go_wp2_with fail
      generalize wr.alloc (.cells #[.string ck, .bool cd, .string cv] 67) = wa at *
      have SA : Hid (w.heap.size + 1 ≤ wa.heap.size) := blk_lt E1.out
      have HK2 : Hid (Calls Try.prog 32 #[.agg #[.string ck, .bool cd, .string cv]] wa.drew fun e w' => e = .returned (.int .i64 kd) ∧ w'.cell? ⟨wr.heap.size, 0, none⟩ = some (.string ck) ∧ w'.cell? ⟨wr.heap.size, 1, none⟩ = some (.bool cd) ∧ w'.cell? ⟨wr.heap.size, 2, none⟩ = some (.string cv) ∧ w'.cell? ⟨w.heap.size, 0, none⟩ = some (.int .i64 s) ∧ Hid (∀ o, (w'.alloc o).cell? ⟨wr.heap.size, 0, none⟩ = some (.string ck) ∧ (w'.alloc o).cell? ⟨wr.heap.size, 1, none⟩ = some (.bool cd) ∧ (w'.alloc o).cell? ⟨wr.heap.size, 2, none⟩ = some (.string cv) ∧ (w'.alloc o).cell? ⟨w.heap.size, 0, none⟩ = some (.int .i64 s)) ∧
          Hid (∀ o, (w'.alloc o).heap[wr.heap.size]? = some (.cells #[.string ck, .bool cd, .string cv] 67)) ∧ Hid (∀ o, (w'.alloc o).heap[w.heap.size]? = some (.cells #[.int .i64 s, .slice (some ⟨b, off, none⟩) cs.length c] 26)) ∧ Hid (∀ o, OwnR (w'.alloc o) (w.heap.size + 1) 69 4 (.slice ax nx cx) L) ∧ Hid (∀ o, Below w.heap.size w (w'.alloc o)) ∧ Hid (∀ o, w.heap.size + 1 ≤ (w'.alloc o).heap.size) ∧ Hid (∀ o w3, (w'.alloc o).grownBy w3 (Value.slice ax nx cx).ownBlock → w3.heap[wr.heap.size]? = some (.cells #[.string ck, .bool cd, .string cv] 67) ∧ w3.heap[w.heap.size]? = some (.cells #[.int .i64 s, .slice (some ⟨b, off, none⟩) cs.length c] 26) ∧ Below w.heap.size w w3 ∧ w3.cell? ⟨wr.heap.size, 0, none⟩ = some (.string ck) ∧ w3.cell? ⟨wr.heap.size, 1, none⟩ = some (.bool cd) ∧ w3.cell? ⟨wr.heap.size, 2, none⟩ = some (.string cv) ∧ w3.cell? ⟨w.heap.size, 0, none⟩ = some (.int .i64 s))) := by
        refine (HK.out wa.drew).mono ?_
        rintro e w' ⟨rfl, hb⟩
        have hb' : Below wa.heap.size wa w' := (Below.refl _ _).drew.trans hb
        have d1 := blk_up D1.out hb'
        have e1 := blk_up E1.out hb'
        have d2 : ∀ o, (w'.alloc o).heap[wr.heap.size]? = some (.cells #[.string ck, .bool cd, .string cv] 67) := fun o => blk_up d1 (up_alloc w' o)
        have e2 : ∀ o, (w'.alloc o).heap[w.heap.size]? = some (.cells #[.int .i64 s, .slice (some ⟨b, off, none⟩) cs.length c] 26) := fun o => blk_up e1 (up_alloc w' o)
        refine ⟨rfl, blk_cell d1 0 _ rfl, blk_cell d1 1 _ rfl, blk_cell d1 2 _ rfl, blk_cell e1 0 _ rfl, fun o => ⟨blk_cell (d2 o) 0 _ rfl, blk_cell (d2 o) 1 _ rfl, blk_cell (d2 o) 2 _ rfl, blk_cell (e2 o) 0 _ rfl⟩, d2, e2, fun o => (HO1.out.up hb').up (up_alloc _ _), fun o => up_al (up_trans HB1.out hb') _, fun o => le_al (Nat.le_trans SA.out hb'.size) _, fun o w3 g3 => ?_⟩
        have ho := (HO1.out.up hb').up (up_alloc w' o)
        have d3 := OwnR.keep ho g3 (d2 o) (by decide)
        have e3 := OwnR.keep ho g3 (e2 o) (by decide)
        refine ⟨d3, e3, (up_al (up_trans HB1.out hb') o).grown g3 ?_ ?_, blk_cell d3 0 _ rfl, blk_cell d3 1 _ rfl, blk_cell d3 2 _ rfl, blk_cell e3 0 _ rfl⟩
        · have := le_al (Nat.le_trans SA.out hb'.size) o; omega
        · intro j hj; have := (ho.2.lt j hj).1; omega
      have z0 := blk_cell D1.out 0 _ rfl
      have z1 := blk_cell D1.out 1 _ rfl
      have z2 := blk_cell D1.out 2 _ rfl
      have z3 := blk_cell E1.out 0 _ rfl
      have HM1 : Hid (((L.length + [[Value.string ck, .int .i64 (s + (k : Int)), .int .i64 kd, .string cv]].length) + (L.length + [[Value.string ck, .int .i64 (s + (k : Int)), .int .i64 kd, .string cv]].length) / 4 + 192) * 48 ≤ 281474976710656) := by have := HM.out; unfold Hid; simp; omega
      have HM2 : Hid (L.length + [[Value.string ck, .int .i64 (s + (k : Int)), .int .i64 kd, .string cv]].length ≤ maxLen) := by have := HM.out; unfold Hid maxLen; simp; omega
      have HR : Hid (∀ w' : World, Rws 4 (w'.alloc (.cells #[.string ck, .int .i64 (s + (k : Int)), .int .i64 kd, .string cv] 69)) (.slice (some ⟨w'.heap.size, 0, none⟩) 1 1) [[.string ck, .int .i64 (s + (k : Int)), .int .i64 kd, .string cv]]) := fun w' => Rws.made (sz := 4) w' 69 [[.string ck, .int .i64 (s + (k : Int)), .int .i64 kd, .string cv]] (by simp) (by simp [maxLen])
      have H1 : Hid (∀ r ∈ [[Value.string ck, .int .i64 (s + (k : Int)), .int .i64 kd, .string cv]], ∀ u ∈ r, u.oneCell' = true) := by
        intro r hr u hu
        simp at hr
        subst hr
        simp at hu
        rcases hu with rfl | rfl | rfl | rfl <;> rfl
      go_region_held3 (fun w' => w'.cell? ⟨wr.heap.size, 0, none⟩ = some (.string ck) ∧ w'.cell? ⟨wr.heap.size, 1, none⟩ = some (.bool cd) ∧ w'.cell? ⟨wr.heap.size, 2, none⟩ = some (.string cv) ∧ w'.cell? ⟨w.heap.size, 0, none⟩ = some (.int .i64 s)) (first | with_reducible exact ⟨x0, x1, x2, x3⟩ | with_reducible exact ⟨y0, y1, y2, y3⟩ | with_reducible exact yy.out _ | with_reducible exact ⟨z0, z1, z2, z3⟩ | (simp [go_sem, z0, z1, z2, z3]; done)) (first
        | (go_at_call 32; with_reducible refine HK2.out.mono ?_; rintro e w' ⟨rfl, y0, y1, y2, y3, yy, d2, e2, o2, u2, s2, f2⟩)
        | (refine step_append_rows _ (by rfl) _ _ 38 69 _ 4 48 (by rfl) Try.underlying38 Try.info69 (by rfl) (by decide) (w.heap.size + 1) (.slice ax nx cx) L (by rfl) (o2.out _) (.slice (some ⟨w'.heap.size, 0, none⟩) 1 1) [[.string ck, .int .i64 (s + (k : Int)), .int .i64 kd, .string cv]] (by rfl) (HR.out _) H1.out HM1.out HM2.out (s2.out _) ?_; intro v3 w3 o3 g3; obtain ⟨D3, E3, U3', x0, x1, x2, x3⟩ := f2.out _ _ g3; obtain ⟨a3, n3, c3, rfl⟩ := OwnR.shape o3; have U3 : Hid (Below w.heap.size w w3) := U3'))
      all_goals
        have HQ2 : Hid (OwnR w3 (w.heap.size + 1) 69 4 (.slice a3 n3 c3) (entL s (cs.take (k + 1)))) := by
          unfold Hid
          rw [HT.out]
          unfold erow
          rw [hk']
          exact o3
        have E4 : Hid (w3.heap[w.heap.size]? = some (.cells #[.int .i64 s, .slice (some ⟨b, off, none⟩) cs.length c] 26)) := E3
        clear o3 g3 D3 E3 x0 x1 x2 x3 d2 e2 o2 u2 s2 f2 yy U3'
        go_wp2
        exact ⟨⟨k + 1, _, _, _, hlt, by go_num, rfl, HQ2, U3, E4⟩, by simp [intOf]; omega⟩
    · have hlt' : ¬ (k : Int) < (cs.length : Int) := by omega
      have HQ2 : Hid (OwnR wr w.heap.size 69 4 (.slice ax nx cx) (entL s cs)) := by
        have h1 := HO.out
        rw [List.take_of_length_le (by omega)] at h1
        exact h1.mono (by omega)
      clear HO
      go_wp2
      go_ret2
      exact ⟨_, _, _, rfl, HQ2, HB⟩
end Go.Proofs.Ytgphkddcfcmaiaa
