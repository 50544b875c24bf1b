/- The document's order: the places of the nodes in the order of their versions. -/
import Derived.Test.YtmiokopnhkojoaaLInts
namespace Go.Proofs.Ytmiokopnhkojoaa
open Go.RowKit
set_option linter.unusedVariables false
set_option linter.unusedSimpArgs false

instance : Inhabited En := ⟨⟨⟨#[]⟩, 0, 0, ⟨#[]⟩⟩⟩
/-- Where a version goes among places that are in order. -/
def posF (l : List En) (x : En) (out : List Nat) : Nat := out.findIdx fun k => !beforeE (l.getD k default) x
def insF (l : List En) (out : List Nat) (i : Nat) : List Nat := out.take (posF l (l.getD i default) out) ++ [i] ++ out.drop (posF l (l.getD i default) out)
def orderF (l : List En) : Nat → List Nat
  | 0 => []
  | n + 1 => insF l (orderF l n) n
theorem posF_le (l : List En) (x : En) (out : List Nat) : posF l x out ≤ out.length := List.findIdx_le_length
theorem orderF_len (l : List En) : ∀ n, (orderF l n).length = n := by
  intro n
  induction n with
  | zero => rfl
  | succ n ih =>
    have := posF_le l (l.getD n default) (orderF l n)
    simp only [orderF, insF, List.length_append, List.length_take, List.length_drop, List.length_cons, List.length_nil, ih] at *
    omega
theorem orderF_lt (l : List En) : ∀ n j, j ∈ orderF l n → j < n := by
  intro n
  induction n with
  | zero => intro j h; cases h
  | succ n ih =>
    intro j h
    simp only [orderF, insF, List.mem_append, List.mem_singleton] at h
    rcases h with (h | h) | h
    · have := ih j (List.mem_of_mem_take h); omega
    · omega
    · have := ih j (List.mem_of_mem_drop h); omega

def nrow (p : En × Value) : List Value := enRow p.1 ++ [p.2]
/-- The slice v holds in w nodes of these versions and ways. -/
def NodesE (w : World) (v : Value) (es : List (En × Value)) : Prop := Rws 5 w v (es.map nrow)
theorem NodesE.up {w w' : World} {v : Value} {es : List (En × Value)} (h : NodesE w v es) (hb : Below w.heap.size w w') : NodesE w' v es := Rws.up h hb
theorem NodesE.len {w : World} {v : Value} {es : List (En × Value)} (h : NodesE w v es) : ∃ a cap, v = .slice a es.length cap ∧ es.length ≤ cap ∧ cap ≤ maxLen := by
  obtain ⟨a, c, e, h1, h2⟩ := Rws.len h
  simp only [List.length_map] at e h1
  exact ⟨a, c, e, h1, h2⟩
theorem NodesE.at {w : World} {v : Value} {es : List (En × Value)} (h : NodesE w v es) (k : Nat) (hk : k < es.length) :
    ∃ b off cap n s, v = .slice (some ⟨b, off, none⟩) es.length cap ∧ es[k]? = some (n, s) ∧ w.cell? ⟨b, off + k * 5, none⟩ = some (.string n.key) ∧ w.cell? ⟨b, off + k * 5 + 1, none⟩ = some (.int .i64 n.seq) ∧ w.cell? ⟨b, off + k * 5 + 2, none⟩ = some (.int .i64 n.kind) ∧ w.cell? ⟨b, off + k * 5 + 3, none⟩ = some (.string n.val) ∧ w.cell? ⟨b, off + k * 5 + 4, none⟩ = some s := by
  obtain ⟨b, off, cap, e, _, _, hc⟩ := Rws.at h k (by simpa using hk)
  simp only [List.length_map] at e
  have hg : (es.map nrow).getD k [] = nrow es[k] := by simp [List.getD, hk]
  rw [hg] at hc
  refine ⟨b, off, cap, es[k].1, es[k].2, e, by simp [hk], ?_, ?_, ?_, ?_, ?_⟩
  · simpa using hc 0 _ rfl
  · simpa using hc 1 _ rfl
  · simpa using hc 2 _ rfl
  · simpa using hc 3 _ rfl
  · simpa using hc 4 _ rfl
theorem Rws.dropN {sz : Nat} {w : World} {b off n cap : Nat} {css : List (List Value)} (h : Rws sz w (.slice (some ⟨b, off, none⟩) n cap) css) (p : Nat) (hp : p ≤ css.length) : Rws sz w (.slice (some ⟨b, off + p * sz, none⟩) (n - p) (cap - p)) (css.drop p) := by
  obtain ⟨h1, a, c, e, h2, h3, _, h5⟩ := h
  simp only [Value.slice.injEq] at e
  obtain ⟨rfl, rfl, rfl⟩ := e
  refine ⟨fun cs hc => h1 cs (List.mem_of_mem_drop hc), _, _, by rw [List.length_drop], by rw [List.length_drop]; omega, by omega, by simp, ?_⟩
  intro hne
  have hcs : css ≠ [] := by intro e; rw [e] at hne; simp at hne
  obtain ⟨b', off', e', hc⟩ := h5 hcs
  simp only [Option.some.injEq, Addr.mk.injEq] at e'
  obtain ⟨rfl, rfl, _⟩ := e'
  refine ⟨b, off + p * sz, rfl, ?_⟩
  intro j cs hj i u hu
  rw [List.getElem?_drop] at hj
  have := hc (p + j) cs hj i u hu
  rw [Nat.add_mul] at this
  rw [Nat.add_assoc off]
  exact this
def inrow (n : Nat) : List Value := [.int .i64 (n : Int)]
theorem own_at {w : World} {base : Nat} {a : Option Addr} {n c : Nat} {out : List Nat} (h : OwnR w base 3 1 (.slice a n c) (out.map inrow)) (k : Nat) (j : Nat) (hj : out[k]? = some j) :
    ∃ b off, a = some ⟨b, off, none⟩ ∧ w.cell? ⟨b, off + k, none⟩ = some (.int .i64 (j : Int)) := by
  have hk : k < out.length := by
    have := List.getElem?_eq_some_iff.1 hj
    exact this.1
  obtain ⟨b, off, cap, e, _, _, hc⟩ := (Rws.own h).at k (by simpa using hk)
  simp only [Value.slice.injEq] at e
  refine ⟨b, off, e.1, ?_⟩
  have hg : (out.map inrow).getD k [] = inrow j := by simp [List.getD, hj]
  rw [hg] at hc
  simpa using hc 0 _ rfl
theorem one_in (l : List Nat) : ∀ cs ∈ l.map inrow, ∀ u ∈ cs, u.oneCell' = true := by
  intro cs h u hu
  simp only [List.mem_map] at h
  obtain ⟨n, _, rfl⟩ := h
  simp only [inrow, List.mem_singleton] at hu
  subst hu
  rfl

set_option maxHeartbeats 1000000 in
set_option maxRecDepth 100000 in
theorem order_any (es : List (En × Value)) (v : Value) (w : World) (hv : NodesE w v es) (hn : es.length ≤ 4096) :
    Calls Try.prog 38 #[v] w fun e w' => ∃ a c, e = .returned (.slice a es.length c) ∧ Hid (OwnR w' w.heap.size 3 1 (.slice a es.length c) ((orderF (es.map (·.1)) es.length).map inrow)) ∧ Hid (Below w.heap.size w w') := by
  have HV : Hid (NodesE w v es) := hv
  obtain ⟨av, cv, rfl, _, _⟩ := hv.len
  clear hv
  go_enter Try.func38, Try.ntmps38
  go_wp2_with fail
  go_loopw [4, 3] (fun q o wr => ∃ (i : Nat) (ao : Option Addr) (co : Nat), i ≤ es.length ∧ q = .int .i64 i ∧ o = .slice ao i co ∧ Hid (OwnR wr w.heap.size 3 1 (.slice ao i co) ((orderF (es.map (·.1)) i).map inrow)) ∧ Hid (Below w.heap.size w wr)) (fun q _ _ => es.length - (intOf q).toNat)
  case atStart => exact ⟨0, none, 0, Nat.zero_le _, rfl, rfl, OwnR.nil _ _ _ _, Below.refl _ _⟩
  case round =>
    obtain ⟨i, ao, co, hi, rfl, rfl, HO, HB⟩ := hrel
    by_cases hlt : i < es.length
    · have hlt' : (i : Int) < (es.length : Int) := by omega
      obtain ⟨b, off, cap, x, sx, e, hx, x0, x1, x2, x3, x4⟩ := HV.out.at i hlt
      simp only [Value.slice.injEq] at e
      obtain ⟨rfl, _, rfl⟩ := e
      have HXE : Hid ((es.map (·.1)).getD i default = x) := by unfold Hid; simp [List.getD, hx]
      generalize hLL : es.map (·.1) = LL at *
      generalize hOF : orderF LL i = OF at *
      have HL : Hid (OF.length = i) := by unfold Hid; rw [← hOF]; exact orderF_len _ _
      have HLT : Hid (∀ j ∈ OF, j < i) := by unfold Hid; rw [← hOF]; exact orderF_lt _ _
      have HP : Hid (posF LL x OF ≤ i) := by have := posF_le LL x OF; rw [HL.out] at this; exact this
      clear x0 x1 x2 x3 x4 hx
      go_wp2_with fail
      go_loopw [5] (fun q wr' => ∃ (k : Nat), k ≤ posF LL x OF ∧ q = .int .i64 k ∧ Hid (OwnR wr' w.heap.size 3 1 (.slice ao i co) (OF.map inrow)) ∧ Hid (Below w.heap.size w wr')) (fun q _ => posF LL x OF - (intOf q).toNat)
      case atStart => exact ⟨0, Nat.zero_le _, rfl, HO, HB⟩
      case round =>
        clear HO HB
        obtain ⟨k, hk, rfl, HO, HB⟩ := hrel
        by_cases hki : k < i
        · have hki' : (k : Int) < (i : Int) := by omega
          obtain ⟨j, hj⟩ : ∃ j, OF[k]? = some j := ⟨OF[k]'(by rw [HL.out]; exact hki), by simp [HL.out, hki]⟩
          have hjl : j < es.length := by
            have := HLT.out j (List.mem_of_getElem? hj)
            omega
          obtain ⟨bo, oo, rfl, c0⟩ := own_at HO.out k j hj
          by_cases hkp : k < posF LL x OF
          · have hbb : beforeE (LL.getD j default) x = true := by
              have := List.not_of_lt_findIdx (p := fun k => !beforeE (LL.getD k default) x) (xs := OF) hkp
              have e : OF[k]'(by rw [HL.out]; exact hki) = j := by
                have := List.getElem?_eq_some_iff.1 hj
                exact this.2
              rw [e] at this
              simpa using this
            generalize hBB : true = BB at hbb
            obtain ⟨_, _, _, x', sx', e1, hx', y0, y1, y2, y3, y4⟩ := (HV.out.up HB.out).at i hlt
            obtain rfl : x = x' := by
              have := HXE.out
              rw [← hLL] at this
              simp [List.getD, hx'] at this
              exact this.symm
            simp only [Value.slice.injEq, Option.some.injEq, Addr.mk.injEq] at e1
            obtain ⟨⟨rfl, rfl, _⟩, _, rfl⟩ := e1
            obtain ⟨_, _, _, z, sz', e2, hz, z0, z1, z2, z3, z4⟩ := (HV.out.up HB.out).at j hjl
            simp only [Value.slice.injEq, Option.some.injEq, Addr.mk.injEq] at e2
            obtain ⟨⟨rfl, rfl, _⟩, _, rfl⟩ := e2
            have hzb : beforeE z x = BB := by
              rw [← hbb, ← hLL]
              simp [List.getD, hz]
            subst hBB
            have hjl' : (j : Int) < (es.length : Int) := by omega
            have HC : Hid (Calls Try.prog 24 #[.agg #[.string z.key, .int .i64 z.seq, .int .i64 z.kind, .string z.val], .agg #[.string x.key, .int .i64 x.seq, .int .i64 x.kind, .string x.val]] wr.drew fun e w' => e = .returned (.bool true) ∧ w'.cell? ⟨bo, oo + k, none⟩ = some (.int .i64 (j : Int)) ∧ w'.cell? ⟨b, off + i * 5, none⟩ = some (.string x.key) ∧ w'.cell? ⟨b, off + i * 5 + 1, none⟩ = some (.int .i64 x.seq) ∧ w'.cell? ⟨b, off + i * 5 + 2, none⟩ = some (.int .i64 x.kind) ∧ w'.cell? ⟨b, off + i * 5 + 3, none⟩ = some (.string x.val) ∧ w'.cell? ⟨b, off + j * 5, none⟩ = some (.string z.key) ∧ w'.cell? ⟨b, off + j * 5 + 1, none⟩ = some (.int .i64 z.seq) ∧ w'.cell? ⟨b, off + j * 5 + 2, none⟩ = some (.int .i64 z.kind) ∧ w'.cell? ⟨b, off + j * 5 + 3, none⟩ = some (.string z.val) ∧ Hid (OwnR w' w.heap.size 3 1 (.slice (some ⟨bo, oo, none⟩) i co) (OF.map inrow)) ∧ Hid (Below w.heap.size w w')) := by
              have h := refBefore_any z x wr.drew
              rw [hzb] at h
              refine h.mono ?_
              rintro e w' ⟨rfl, rfl⟩
              have hb2 : Below wr.heap.size wr ((wr.drew.alloc (enObj z)).alloc (enObj x)) := up_al (up_al (up_dr (Below.refl _ _)) _) _
              have lt : ∀ {bb o : Nat} {q : Value}, wr.cell? ⟨bb, o, none⟩ = some q → ((wr.drew.alloc (enObj z)).alloc (enObj x)).cell? ⟨bb, o, none⟩ = some q := fun hq => (hb2.cell (World.block_lt_of_cell? wr _ hq)).trans hq
              exact ⟨rfl, lt c0, lt y0, lt y1, lt y2, lt y3, lt z0, lt z1, lt z2, lt z3, HO.out.up hb2, up_trans HB.out hb2⟩
            clear hzb hbb hz hx' hj y4 z4 HO HB
            go_wp2_with fail
            go_region_held3 (fun w' => w'.cell? ⟨bo, oo + k, none⟩ = some (.int .i64 (j : Int)) ∧ w'.cell? ⟨b, off + i * 5, none⟩ = some (.string x.key) ∧ w'.cell? ⟨b, off + i * 5 + 1, none⟩ = some (.int .i64 x.seq) ∧ w'.cell? ⟨b, off + i * 5 + 2, none⟩ = some (.int .i64 x.kind) ∧ w'.cell? ⟨b, off + i * 5 + 3, none⟩ = some (.string x.val) ∧ w'.cell? ⟨b, off + j * 5, none⟩ = some (.string z.key) ∧ w'.cell? ⟨b, off + j * 5 + 1, none⟩ = some (.int .i64 z.seq) ∧ w'.cell? ⟨b, off + j * 5 + 2, none⟩ = some (.int .i64 z.kind) ∧ w'.cell? ⟨b, off + j * 5 + 3, none⟩ = some (.string z.val)) (first | with_reducible exact ⟨q0, q1, q2, q3, q4, q5, q6, q7, q8⟩ | with_reducible exact ⟨c0, y0, y1, y2, y3, z0, z1, z2, z3⟩ | (simp [go_sem, c0, y0, y1, y2, y3, z0, z1, z2, z3]; done)) (first
              | (go_at_call 24; with_reducible refine HC.out.mono ?_; rintro e w' ⟨rfl, q0, q1, q2, q3, q4, q5, q6, q7, q8, ho, hb⟩))
            all_goals
              go_wp2_with fail
              exact ⟨⟨k + 1, by omega, by go_num, ho, hb⟩, by simp [intOf]; omega⟩
          · have HPK : Hid (posF LL x OF = k) := by unfold Hid; omega
            have hbb : beforeE (LL.getD j default) x = false := by
              have hlt3 : posF LL x OF < OF.length := by rw [HL.out, HPK.out]; exact hki
              have := List.findIdx_getElem (p := fun k => !beforeE (LL.getD k default) x) (xs := OF) (w := hlt3)
              have e : OF[OF.findIdx fun k => !beforeE (LL.getD k default) x]'hlt3 = j := by
                have h2 := HPK.out
                unfold posF at h2
                simp only [h2]
                have := List.getElem?_eq_some_iff.1 hj
                exact this.2
              rw [e] at this
              simpa using this
            generalize hBB : false = BB at hbb
            obtain ⟨_, _, _, x', sx', e1, hx', y0, y1, y2, y3, y4⟩ := (HV.out.up HB.out).at i hlt
            obtain rfl : x = x' := by
              have := HXE.out
              rw [← hLL] at this
              simp [List.getD, hx'] at this
              exact this.symm
            simp only [Value.slice.injEq, Option.some.injEq, Addr.mk.injEq] at e1
            obtain ⟨⟨rfl, rfl, _⟩, _, rfl⟩ := e1
            obtain ⟨_, _, _, z, sz', e2, hz, z0, z1, z2, z3, z4⟩ := (HV.out.up HB.out).at j hjl
            simp only [Value.slice.injEq, Option.some.injEq, Addr.mk.injEq] at e2
            obtain ⟨⟨rfl, rfl, _⟩, _, rfl⟩ := e2
            have hzb : beforeE z x = BB := by
              rw [← hbb, ← hLL]
              simp [List.getD, hz]
            subst hBB
            have hjl' : (j : Int) < (es.length : Int) := by omega
            have hic : i ≤ co := by
              obtain ⟨z1, z2, z3, z4, _⟩ := (Rws.own HO.out).len
              rw [List.length_map, HL.out] at z4
              simp only [Value.slice.injEq] at z3
              omega
            have HPL : Hid (k ≤ OF.length) := by have := posF_le LL x OF; rw [HPK.out] at this; exact this
            have HC1 : Hid (((([] : List (List Value)).length + ((OF.take k).map inrow).length) + (([] : List (List Value)).length + ((OF.take k).map inrow).length) / 4 + 192) * 8 ≤ 281474976710656) := by
              have := HL.out
              unfold Hid; simp only [List.length_nil, List.length_map, List.length_take]; omega
            have HC2 : Hid ((([] : List (List Value)).length + ((OF.take k).map inrow).length) ≤ maxLen) := by
              have := HL.out
              unfold Hid maxLen; simp only [List.length_nil, List.length_map, List.length_take]; omega
            have HC3 : Hid (((((OF.take k).map inrow).length + 1) + (((OF.take k).map inrow).length + 1) / 4 + 192) * 8 ≤ 281474976710656) := by
              have := HL.out
              unfold Hid; simp only [List.length_map, List.length_take]; omega
            have HC4 : Hid (((OF.take k).map inrow).length + 1 ≤ maxLen) := by
              have := HL.out
              unfold Hid maxLen; simp only [List.length_map, List.length_take]; omega
            have HO1 : Hid (∀ u ∈ [Value.int .i64 (i : Int)], u.oneCell' = true) := by
              intro u hu
              simp only [List.mem_singleton] at hu
              subst hu
              rfl
            have HC : Hid (Calls Try.prog 24 #[.agg #[.string z.key, .int .i64 z.seq, .int .i64 z.kind, .string z.val], .agg #[.string x.key, .int .i64 x.seq, .int .i64 x.kind, .string x.val]] wr.drew fun e w' => e = .returned (.bool false) ∧ w'.cell? ⟨bo, oo + k, none⟩ = some (.int .i64 (j : Int)) ∧ w'.cell? ⟨b, off + i * 5, none⟩ = some (.string x.key) ∧ w'.cell? ⟨b, off + i * 5 + 1, none⟩ = some (.int .i64 x.seq) ∧ w'.cell? ⟨b, off + i * 5 + 2, none⟩ = some (.int .i64 x.kind) ∧ w'.cell? ⟨b, off + i * 5 + 3, none⟩ = some (.string x.val) ∧ w'.cell? ⟨b, off + j * 5, none⟩ = some (.string z.key) ∧ w'.cell? ⟨b, off + j * 5 + 1, none⟩ = some (.int .i64 z.seq) ∧ w'.cell? ⟨b, off + j * 5 + 2, none⟩ = some (.int .i64 z.kind) ∧ w'.cell? ⟨b, off + j * 5 + 3, none⟩ = some (.string z.val) ∧ Hid (OwnR w' w.heap.size 3 1 (.slice (some ⟨bo, oo, none⟩) i co) (OF.map inrow)) ∧ Hid (Below w.heap.size w w')) := by
              have h := refBefore_any z x wr.drew
              rw [hzb] at h
              refine h.mono ?_
              rintro e w' ⟨rfl, rfl⟩
              have hb2 : Below wr.heap.size wr ((wr.drew.alloc (enObj z)).alloc (enObj x)) := up_al (up_al (up_dr (Below.refl _ _)) _) _
              have lt : ∀ {bb o : Nat} {q : Value}, wr.cell? ⟨bb, o, none⟩ = some q → ((wr.drew.alloc (enObj z)).alloc (enObj x)).cell? ⟨bb, o, none⟩ = some q := fun hq => (hb2.cell (World.block_lt_of_cell? wr _ hq)).trans hq
              exact ⟨rfl, lt c0, lt y0, lt y1, lt y2, lt y3, lt z0, lt z1, lt z2, lt z3, HO.out.up hb2, up_trans HB.out hb2⟩
            clear hzb hbb hz hx' hj y4 z4 HO HB
            go_wp2_with fail
            go_region_held3 (fun w' => w'.cell? ⟨bo, oo + k, none⟩ = some (.int .i64 (j : Int)) ∧ w'.cell? ⟨b, off + i * 5, none⟩ = some (.string x.key) ∧ w'.cell? ⟨b, off + i * 5 + 1, none⟩ = some (.int .i64 x.seq) ∧ w'.cell? ⟨b, off + i * 5 + 2, none⟩ = some (.int .i64 x.kind) ∧ w'.cell? ⟨b, off + i * 5 + 3, none⟩ = some (.string x.val) ∧ w'.cell? ⟨b, off + j * 5, none⟩ = some (.string z.key) ∧ w'.cell? ⟨b, off + j * 5 + 1, none⟩ = some (.int .i64 z.seq) ∧ w'.cell? ⟨b, off + j * 5 + 2, none⟩ = some (.int .i64 z.kind) ∧ w'.cell? ⟨b, off + j * 5 + 3, none⟩ = some (.string z.val)) (first | with_reducible exact ⟨q0, q1, q2, q3, q4, q5, q6, q7, q8⟩ | with_reducible exact ⟨c0, y0, y1, y2, y3, z0, z1, z2, z3⟩ | (simp [go_sem, c0, y0, y1, y2, y3, z0, z1, z2, z3]; done)) (first
              | (go_at_call 24; with_reducible refine HC.out.mono ?_; rintro e w' ⟨rfl, q0, q1, q2, q3, q4, q5, q6, q7, q8, ho, hb⟩))
            all_goals
              have HR1 : Hid (Rws 1 w' (.slice (some ⟨bo, oo, none⟩) k co) ((OF.take k).map inrow)) := by
                have := (Rws.own ho.out).first k (by rw [List.length_map]; exact HPL.out)
                rw [← List.map_take] at this
                exact this
              have UE : Hid (Below w.heap.size w w') := hb
              generalize w' = WE at *
              have hpc : (k : Int) ≤ (co : Int) := by omega
              have hpi : (k : Int) ≤ (i : Int) := by omega
              have hck : ¬ co = k := by omega
              have HD3 : Hid (Rws 1 WE (.slice (some ⟨bo, oo + k, none⟩) (i - k) (co - k)) ((OF.drop k).map inrow)) := by
                have := (Rws.own ho.out).dropN k (by rw [List.length_map]; exact HPL.out)
                rw [← List.map_drop, Nat.mul_one] at this
                exact this
              have HE : Hid (∀ (w3 : World) (v3 : Value), OwnR w3 WE.heap.size 3 1 v3 ((OF.take k).map inrow ++ [Value.int .i64 (i : Int)] :: (OF.drop k).map inrow) → OwnR w3 w.heap.size 3 1 v3 ((orderF LL (i + 1)).map inrow)) := by
                intro w3 v3 h
                have e : (orderF LL (i + 1)).map inrow = (OF.take k).map inrow ++ [Value.int .i64 (i : Int)] :: (OF.drop k).map inrow := by
                  rw [show orderF LL (i + 1) = insF LL OF i from by rw [← hOF]; rfl]
                  unfold insF
                  rw [HXE.out, HPK.out]
                  simp [inrow]
                rw [e]
                exact h.mono UE.out.size
              have HR3 : Hid (∀ w2, Below WE.heap.size WE w2 → Rws 1 w2 (.slice (some ⟨bo, oo + k, none⟩) (i - k) (co - k)) ((OF.drop k).map inrow)) := fun w2 h2 => (HD3.out).up h2
              have HC5 : Hid (((((OF.take k).map inrow ++ [[Value.int .i64 (i : Int)]]).length + ((OF.drop k).map inrow).length) + (((OF.take k).map inrow ++ [[Value.int .i64 (i : Int)]]).length + ((OF.drop k).map inrow).length) / 4 + 192) * 8 ≤ 281474976710656) := by
                have := HL.out
                unfold Hid; simp only [List.length_append, List.length_cons, List.length_nil, List.length_map, List.length_take, List.length_drop]; omega
              have HC6 : Hid (((OF.take k).map inrow ++ [[Value.int .i64 (i : Int)]]).length + ((OF.drop k).map inrow).length ≤ maxLen) := by
                have := HL.out
                unfold Hid maxLen; simp only [List.length_append, List.length_cons, List.length_nil, List.length_map, List.length_take, List.length_drop]; omega
              have H1T : Hid (∀ cs ∈ (OF.take k).map inrow, ∀ u ∈ cs, u.oneCell' = true) := one_in _
              have H1D : Hid (∀ cs ∈ (OF.drop k).map inrow, ∀ u ∈ cs, u.oneCell' = true) := one_in _
              have HTD : Hid (((OF.take k).map inrow ++ [Value.int .i64 (i : Int)] :: (OF.drop k).map inrow).length = i + 1) := by
                have := HL.out
                unfold Hid; simp only [List.length_append, List.length_cons, List.length_nil, List.length_map, List.length_take, List.length_drop]; omega
              generalize (OF.take k).map inrow = T1 at *
              generalize (OF.drop k).map inrow = T2 at *
              clear HXE hOF hLL HL HLT HP HPK HPL
              go_wp2_with (at_builtin; refine wpList_append_rows _ rfl _ _ 23 3 _ 1 8 rfl Try.underlying23 Try.info3 rfl (by decide) WE.heap.size (.slice none 0 0) [] rfl (OwnR.nil _ _ _ _) (.slice (some ⟨bo, oo, none⟩) k co) T1 rfl HR1.out H1T.out HC1.out HC2.out (Nat.le_refl _) ?_)
              intro v1 w1 O1 G1
              have U1 : Hid (Below WE.heap.size WE w1) := (Below.refl _ _).grown G1 (Nat.le_refl _) (by simp [Value.ownBlock])
              have O1' : Hid (OwnR w1 WE.heap.size 3 1 v1 T1) := O1
              clear O1 G1
              have S1 : Hid (WE.heap.size ≤ w1.heap.size) := U1.out.size
              go_wp2_with (at_builtin; refine wpList_append_row w1 rfl _ _ 23 3 _ 1 8 rfl Try.underlying23 Try.info3 rfl (by decide) WE.heap.size v1 T1 rfl O1'.out [.int .i64 (i : Int)] _ _ rfl rfl rfl rfl HO1.out HC3.out HC4.out S1.out ?_)
              intro v2 w2 O2 B2
              have U2 : Hid (Below WE.heap.size WE w2) := U1.out.trans B2
              have O2' : Hid (OwnR w2 WE.heap.size 3 1 v2 (T1 ++ [[Value.int .i64 (i : Int)]])) := O2
              clear O2 B2 O1' U1 S1
              have S2 : Hid (WE.heap.size ≤ w2.heap.size) := U2.out.size
              have HR4 : Hid (Rws 1 w2 (.slice (some ⟨bo, oo + k, none⟩) (i - k) (co - k)) T2) := HR3.out w2 U2.out
              go_wp2_with (at_builtin; refine wpList_append_rows _ rfl _ _ 23 3 _ 1 8 rfl Try.underlying23 Try.info3 rfl (by decide) WE.heap.size v2 (T1 ++ [[Value.int .i64 (i : Int)]]) rfl O2'.out (.slice (some ⟨bo, oo + k, none⟩) (i - k) (co - k)) T2 rfl HR4.out H1D.out HC5.out HC6.out S2.out ?_)
              intro v3 w3 O3 G3
              have U3 : Hid (Below WE.heap.size WE w3) := U2.out.grown G3 U2.out.size (fun q hq => (O2'.out.2.lt q hq).1)
              obtain ⟨a3, c3, rfl, _, _⟩ := (Rws.own O3).len
              have O4 := HE.out _ _ O3
              rw [HTD.out] at O4
              rw [HTD.out]
              have O5 : Hid (OwnR w3 w.heap.size 3 1 (.slice a3 (i + 1) c3) ((orderF LL (i + 1)).map inrow)) := O4
              clear O4 O3 G3
              have U5 : Hid (Below w.heap.size w w3) := up_trans UE.out U3.out
              go_wp2_with fail
              exact ⟨⟨i + 1, a3, c3, by omega, by go_num, rfl, O5, U5⟩, by simp [intOf]; omega⟩
        · obtain rfl : k = i := by have := HP.out; omega
          have hki' : ¬ (k : Int) < (k : Int) := by omega
          have HPK : Hid (posF LL x OF = k) := by have := HP.out; unfold Hid; omega
          have HPL : Hid (k ≤ OF.length) := by have := posF_le LL x OF; rw [HPK.out] at this; exact this
          have HC1 : Hid (((([] : List (List Value)).length + ((OF.take k).map inrow).length) + (([] : List (List Value)).length + ((OF.take k).map inrow).length) / 4 + 192) * 8 ≤ 281474976710656) := by
            have := HL.out
            unfold Hid; simp only [List.length_nil, List.length_map, List.length_take]; omega
          have HC2 : Hid ((([] : List (List Value)).length + ((OF.take k).map inrow).length) ≤ maxLen) := by
            have := HL.out
            unfold Hid maxLen; simp only [List.length_nil, List.length_map, List.length_take]; omega
          have HC3 : Hid (((((OF.take k).map inrow).length + 1) + (((OF.take k).map inrow).length + 1) / 4 + 192) * 8 ≤ 281474976710656) := by
            have := HL.out
            unfold Hid; simp only [List.length_map, List.length_take]; omega
          have HC4 : Hid (((OF.take k).map inrow).length + 1 ≤ maxLen) := by
            have := HL.out
            unfold Hid maxLen; simp only [List.length_map, List.length_take]; omega
          have HO1 : Hid (∀ u ∈ [Value.int .i64 (k : Int)], u.oneCell' = true) := by
            intro u hu
            simp only [List.mem_singleton] at hu
            subst hu
            rfl
          rcases HO.out.2.2 with ⟨h0, h1⟩ | ⟨g, cp, cur, h0, _, _, hcap, _⟩
          · simp only [Value.slice.injEq] at h0
            obtain ⟨rfl, rfl, rfl⟩ := h0
            have HU0 : Hid (∀ d, Below w.heap.size w (wr.drewN d)) := fun d => up_trans HB.out (up_drewN _ d)
            clear HO HB h1
            go_wp2_with fail
            go_quiet (fail)
            have UE : Hid (Below w.heap.size w (wr.drewN nq)) := HU0.out nq
            generalize wr.drewN nq = WE at *
            clear HU0
            have HR1 : Hid (Rws 1 WE (.slice none 0 0) ((OF.take 0).map inrow)) := by
              unfold Hid
              simpa using Rws.nil 1 WE
            have HD3 : Hid (Rws 1 WE (.slice none 0 0) ((OF.drop 0).map inrow)) := by
              have e : OF = [] := List.length_eq_zero_iff.1 HL.out
              unfold Hid
              rw [e]
              exact Rws.nil 1 WE
            have HE : Hid (∀ (w3 : World) (v3 : Value), OwnR w3 WE.heap.size 3 1 v3 ((OF.take 0).map inrow ++ [Value.int .i64 (0 : Int)] :: (OF.drop 0).map inrow) → OwnR w3 w.heap.size 3 1 v3 ((orderF LL (0 + 1)).map inrow)) := by
              intro w3 v3 h
              have e : (orderF LL (0 + 1)).map inrow = (OF.take 0).map inrow ++ [Value.int .i64 (0 : Int)] :: (OF.drop 0).map inrow := by
                rw [show orderF LL (0 + 1) = insF LL OF 0 from by rw [← hOF]; rfl]
                unfold insF
                rw [HXE.out, HPK.out]
                simp [inrow]
              rw [e]
              exact h.mono UE.out.size
            have HR3 : Hid (∀ w2, Below WE.heap.size WE w2 → Rws 1 w2 (.slice none 0 0) ((OF.drop 0).map inrow)) := fun w2 h2 => (HD3.out).up h2
            have HC5 : Hid (((((OF.take 0).map inrow ++ [[Value.int .i64 (0 : Int)]]).length + ((OF.drop 0).map inrow).length) + (((OF.take 0).map inrow ++ [[Value.int .i64 (0 : Int)]]).length + ((OF.drop 0).map inrow).length) / 4 + 192) * 8 ≤ 281474976710656) := by
              have := HL.out
              unfold Hid; simp only [List.length_append, List.length_cons, List.length_nil, List.length_map, List.length_take, List.length_drop]; omega
            have HC6 : Hid (((OF.take 0).map inrow ++ [[Value.int .i64 (0 : Int)]]).length + ((OF.drop 0).map inrow).length ≤ maxLen) := by
              have := HL.out
              unfold Hid maxLen; simp only [List.length_append, List.length_cons, List.length_nil, List.length_map, List.length_take, List.length_drop]; omega
            have H1T : Hid (∀ cs ∈ (OF.take 0).map inrow, ∀ u ∈ cs, u.oneCell' = true) := one_in _
            have H1D : Hid (∀ cs ∈ (OF.drop 0).map inrow, ∀ u ∈ cs, u.oneCell' = true) := one_in _
            have HTD : Hid (((OF.take 0).map inrow ++ [Value.int .i64 (0 : Int)] :: (OF.drop 0).map inrow).length = 0 + 1) := by
              have := HL.out
              unfold Hid; simp only [List.length_append, List.length_cons, List.length_nil, List.length_map, List.length_take, List.length_drop]; omega
            generalize (OF.take 0).map inrow = T1 at *
            generalize (OF.drop 0).map inrow = T2 at *
            clear HXE hOF hLL HL HLT HP HPK HPL
            go_wp2_with (at_builtin; refine wpList_append_rows _ rfl _ _ 23 3 _ 1 8 rfl Try.underlying23 Try.info3 rfl (by decide) WE.heap.size (.slice none 0 0) [] rfl (OwnR.nil _ _ _ _) (.slice none 0 0) T1 rfl HR1.out H1T.out HC1.out HC2.out (Nat.le_refl _) ?_)
            intro v1 w1 O1 G1
            have U1 : Hid (Below WE.heap.size WE w1) := (Below.refl _ _).grown G1 (Nat.le_refl _) (by simp [Value.ownBlock])
            have O1' : Hid (OwnR w1 WE.heap.size 3 1 v1 T1) := O1
            clear O1 G1
            have S1 : Hid (WE.heap.size ≤ w1.heap.size) := U1.out.size
            go_wp2_with (at_builtin; refine wpList_append_row w1 rfl _ _ 23 3 _ 1 8 rfl Try.underlying23 Try.info3 rfl (by decide) WE.heap.size v1 T1 rfl O1'.out [.int .i64 (0 : Int)] _ _ rfl rfl rfl rfl HO1.out HC3.out HC4.out S1.out ?_)
            intro v2 w2 O2 B2
            have U2 : Hid (Below WE.heap.size WE w2) := U1.out.trans B2
            have O2' : Hid (OwnR w2 WE.heap.size 3 1 v2 (T1 ++ [[Value.int .i64 (0 : Int)]])) := O2
            clear O2 B2 O1' U1 S1
            have S2 : Hid (WE.heap.size ≤ w2.heap.size) := U2.out.size
            have HR4 : Hid (Rws 1 w2 (.slice none 0 0) T2) := HR3.out w2 U2.out
            go_wp2_with (at_builtin; refine wpList_append_rows _ rfl _ _ 23 3 _ 1 8 rfl Try.underlying23 Try.info3 rfl (by decide) WE.heap.size v2 (T1 ++ [[Value.int .i64 (0 : Int)]]) rfl O2'.out (.slice none 0 0) T2 rfl HR4.out H1D.out HC5.out HC6.out S2.out ?_)
            intro v3 w3 O3 G3
            have U3 : Hid (Below WE.heap.size WE w3) := U2.out.grown G3 U2.out.size (fun q hq => (O2'.out.2.lt q hq).1)
            obtain ⟨a3, c3, rfl, _, _⟩ := (Rws.own O3).len
            have O4 := HE.out _ _ O3
            rw [HTD.out] at O4
            rw [HTD.out]
            have O5 : Hid (OwnR w3 w.heap.size 3 1 (.slice a3 (0 + 1) c3) ((orderF LL (0 + 1)).map inrow)) := O4
            clear O4 O3 G3
            have U5 : Hid (Below w.heap.size w w3) := up_trans UE.out U3.out
            go_wp2_with fail
            exact ⟨⟨0 + 1, a3, c3, by omega, by go_num, rfl, O5, U5⟩, by simp [intOf]; omega⟩
          · simp only [Value.slice.injEq] at h0
            obtain ⟨bo, oo, hao⟩ : ∃ bo oo, ao = some ⟨bo, oo, none⟩ := ⟨g, 0, h0.1⟩
            subst hao
            have hkc : k ≤ co := by
              rw [List.length_map, HL.out] at hcap
              omega
            have HR0 : Hid (∀ d, Rws 1 (wr.drewN d) (.slice (some ⟨bo, oo, none⟩) k co) (OF.map inrow)) := fun d => (Rws.own HO.out).up (up_drewN _ d)
            have HU0 : Hid (∀ d, Below w.heap.size w (wr.drewN d)) := fun d => up_trans HB.out (up_drewN _ d)
            clear h0 hcap HO HB
            by_cases hck : co = k
            · obtain rfl := hck.symm
              go_wp2_with fail
              go_quiet (fail)
              have HR0' := HR0.out nq
              have UE : Hid (Below w.heap.size w (wr.drewN nq)) := HU0.out nq
              generalize wr.drewN nq = WE at *
              clear HR0 HU0
              have HR1 : Hid (Rws 1 WE (.slice (some ⟨bo, oo, none⟩) k k) ((OF.take k).map inrow)) := by
                have := HR0'.first k (by rw [List.length_map]; exact HPL.out)
                rw [← List.map_take] at this
                exact this
              have HD3 : Hid (Rws 1 WE (.slice (some ⟨bo, oo, none⟩) 0 0) ((OF.drop k).map inrow)) := by
                unfold Hid
                rw [List.drop_of_length_le (by rw [HL.out]; exact Nat.le_refl _)]
                exact ⟨(fun cs h => by cases h), _, _, rfl, Nat.le_refl _, Nat.zero_le _, (fun h => by cases h), fun h => absurd rfl h⟩
              clear HR0'
              have HE : Hid (∀ (w3 : World) (v3 : Value), OwnR w3 WE.heap.size 3 1 v3 ((OF.take k).map inrow ++ [Value.int .i64 (k : Int)] :: (OF.drop k).map inrow) → OwnR w3 w.heap.size 3 1 v3 ((orderF LL (k + 1)).map inrow)) := by
                intro w3 v3 h
                have e : (orderF LL (k + 1)).map inrow = (OF.take k).map inrow ++ [Value.int .i64 (k : Int)] :: (OF.drop k).map inrow := by
                  rw [show orderF LL (k + 1) = insF LL OF k from by rw [← hOF]; rfl]
                  unfold insF
                  rw [HXE.out, HPK.out]
                  simp [inrow]
                rw [e]
                exact h.mono UE.out.size
              have HR3 : Hid (∀ w2, Below WE.heap.size WE w2 → Rws 1 w2 (.slice (some ⟨bo, oo, none⟩) 0 0) ((OF.drop k).map inrow)) := fun w2 h2 => (HD3.out).up h2
              have HC5 : Hid (((((OF.take k).map inrow ++ [[Value.int .i64 (k : Int)]]).length + ((OF.drop k).map inrow).length) + (((OF.take k).map inrow ++ [[Value.int .i64 (k : Int)]]).length + ((OF.drop k).map inrow).length) / 4 + 192) * 8 ≤ 281474976710656) := by
                have := HL.out
                unfold Hid; simp only [List.length_append, List.length_cons, List.length_nil, List.length_map, List.length_take, List.length_drop]; omega
              have HC6 : Hid (((OF.take k).map inrow ++ [[Value.int .i64 (k : Int)]]).length + ((OF.drop k).map inrow).length ≤ maxLen) := by
                have := HL.out
                unfold Hid maxLen; simp only [List.length_append, List.length_cons, List.length_nil, List.length_map, List.length_take, List.length_drop]; omega
              have H1T : Hid (∀ cs ∈ (OF.take k).map inrow, ∀ u ∈ cs, u.oneCell' = true) := one_in _
              have H1D : Hid (∀ cs ∈ (OF.drop k).map inrow, ∀ u ∈ cs, u.oneCell' = true) := one_in _
              have HTD : Hid (((OF.take k).map inrow ++ [Value.int .i64 (k : Int)] :: (OF.drop k).map inrow).length = k + 1) := by
                have := HL.out
                unfold Hid; simp only [List.length_append, List.length_cons, List.length_nil, List.length_map, List.length_take, List.length_drop]; omega
              generalize (OF.take k).map inrow = T1 at *
              generalize (OF.drop k).map inrow = T2 at *
              clear HXE hOF hLL HL HLT HP HPK HPL
              go_wp2_with (at_builtin; refine wpList_append_rows _ rfl _ _ 23 3 _ 1 8 rfl Try.underlying23 Try.info3 rfl (by decide) WE.heap.size (.slice none 0 0) [] rfl (OwnR.nil _ _ _ _) (.slice (some ⟨bo, oo, none⟩) k k) T1 rfl HR1.out H1T.out HC1.out HC2.out (Nat.le_refl _) ?_)
              intro v1 w1 O1 G1
              have U1 : Hid (Below WE.heap.size WE w1) := (Below.refl _ _).grown G1 (Nat.le_refl _) (by simp [Value.ownBlock])
              have O1' : Hid (OwnR w1 WE.heap.size 3 1 v1 T1) := O1
              clear O1 G1
              have S1 : Hid (WE.heap.size ≤ w1.heap.size) := U1.out.size
              go_wp2_with (at_builtin; refine wpList_append_row w1 rfl _ _ 23 3 _ 1 8 rfl Try.underlying23 Try.info3 rfl (by decide) WE.heap.size v1 T1 rfl O1'.out [.int .i64 (k : Int)] _ _ rfl rfl rfl rfl HO1.out HC3.out HC4.out S1.out ?_)
              intro v2 w2 O2 B2
              have U2 : Hid (Below WE.heap.size WE w2) := U1.out.trans B2
              have O2' : Hid (OwnR w2 WE.heap.size 3 1 v2 (T1 ++ [[Value.int .i64 (k : Int)]])) := O2
              clear O2 B2 O1' U1 S1
              have S2 : Hid (WE.heap.size ≤ w2.heap.size) := U2.out.size
              have HR4 : Hid (Rws 1 w2 (.slice (some ⟨bo, oo, none⟩) 0 0) T2) := HR3.out w2 U2.out
              go_wp2_with (at_builtin; refine wpList_append_rows _ rfl _ _ 23 3 _ 1 8 rfl Try.underlying23 Try.info3 rfl (by decide) WE.heap.size v2 (T1 ++ [[Value.int .i64 (k : Int)]]) rfl O2'.out (.slice (some ⟨bo, oo, none⟩) 0 0) T2 rfl HR4.out H1D.out HC5.out HC6.out S2.out ?_)
              intro v3 w3 O3 G3
              have U3 : Hid (Below WE.heap.size WE w3) := U2.out.grown G3 U2.out.size (fun q hq => (O2'.out.2.lt q hq).1)
              obtain ⟨a3, c3, rfl, _, _⟩ := (Rws.own O3).len
              have O4 := HE.out _ _ O3
              rw [HTD.out] at O4
              rw [HTD.out]
              have O5 : Hid (OwnR w3 w.heap.size 3 1 (.slice a3 (k + 1) c3) ((orderF LL (k + 1)).map inrow)) := O4
              clear O4 O3 G3
              have U5 : Hid (Below w.heap.size w w3) := up_trans UE.out U3.out
              go_wp2_with fail
              exact ⟨⟨k + 1, a3, c3, by omega, by go_num, rfl, O5, U5⟩, by simp [intOf]; omega⟩
            · go_wp2_with fail
              go_quiet (fail)
              have HR0' := HR0.out nq
              have UE : Hid (Below w.heap.size w (wr.drewN nq)) := HU0.out nq
              generalize wr.drewN nq = WE at *
              clear HR0 HU0
              have HR1 : Hid (Rws 1 WE (.slice (some ⟨bo, oo, none⟩) k co) ((OF.take k).map inrow)) := by
                have := HR0'.first k (by rw [List.length_map]; exact HPL.out)
                rw [← List.map_take] at this
                exact this
              have hpc : (k : Int) ≤ (co : Int) := by omega
              have HD3 : Hid (Rws 1 WE (.slice (some ⟨bo, oo + k, none⟩) 0 (co - k)) ((OF.drop k).map inrow)) := by
                have := HR0'.dropN k (by rw [List.length_map]; exact HPL.out)
                rw [← List.map_drop, Nat.mul_one, Nat.sub_self] at this
                exact this
              clear HR0'
              have HE : Hid (∀ (w3 : World) (v3 : Value), OwnR w3 WE.heap.size 3 1 v3 ((OF.take k).map inrow ++ [Value.int .i64 (k : Int)] :: (OF.drop k).map inrow) → OwnR w3 w.heap.size 3 1 v3 ((orderF LL (k + 1)).map inrow)) := by
                intro w3 v3 h
                have e : (orderF LL (k + 1)).map inrow = (OF.take k).map inrow ++ [Value.int .i64 (k : Int)] :: (OF.drop k).map inrow := by
                  rw [show orderF LL (k + 1) = insF LL OF k from by rw [← hOF]; rfl]
                  unfold insF
                  rw [HXE.out, HPK.out]
                  simp [inrow]
                rw [e]
                exact h.mono UE.out.size
              have HR3 : Hid (∀ w2, Below WE.heap.size WE w2 → Rws 1 w2 (.slice (some ⟨bo, oo + k, none⟩) 0 (co - k)) ((OF.drop k).map inrow)) := fun w2 h2 => (HD3.out).up h2
              have HC5 : Hid (((((OF.take k).map inrow ++ [[Value.int .i64 (k : Int)]]).length + ((OF.drop k).map inrow).length) + (((OF.take k).map inrow ++ [[Value.int .i64 (k : Int)]]).length + ((OF.drop k).map inrow).length) / 4 + 192) * 8 ≤ 281474976710656) := by
                have := HL.out
                unfold Hid; simp only [List.length_append, List.length_cons, List.length_nil, List.length_map, List.length_take, List.length_drop]; omega
              have HC6 : Hid (((OF.take k).map inrow ++ [[Value.int .i64 (k : Int)]]).length + ((OF.drop k).map inrow).length ≤ maxLen) := by
                have := HL.out
                unfold Hid maxLen; simp only [List.length_append, List.length_cons, List.length_nil, List.length_map, List.length_take, List.length_drop]; omega
              have H1T : Hid (∀ cs ∈ (OF.take k).map inrow, ∀ u ∈ cs, u.oneCell' = true) := one_in _
              have H1D : Hid (∀ cs ∈ (OF.drop k).map inrow, ∀ u ∈ cs, u.oneCell' = true) := one_in _
              have HTD : Hid (((OF.take k).map inrow ++ [Value.int .i64 (k : Int)] :: (OF.drop k).map inrow).length = k + 1) := by
                have := HL.out
                unfold Hid; simp only [List.length_append, List.length_cons, List.length_nil, List.length_map, List.length_take, List.length_drop]; omega
              generalize (OF.take k).map inrow = T1 at *
              generalize (OF.drop k).map inrow = T2 at *
              clear HXE hOF hLL HL HLT HP HPK HPL
              go_wp2_with (at_builtin; refine wpList_append_rows _ rfl _ _ 23 3 _ 1 8 rfl Try.underlying23 Try.info3 rfl (by decide) WE.heap.size (.slice none 0 0) [] rfl (OwnR.nil _ _ _ _) (.slice (some ⟨bo, oo, none⟩) k co) T1 rfl HR1.out H1T.out HC1.out HC2.out (Nat.le_refl _) ?_)
              intro v1 w1 O1 G1
              have U1 : Hid (Below WE.heap.size WE w1) := (Below.refl _ _).grown G1 (Nat.le_refl _) (by simp [Value.ownBlock])
              have O1' : Hid (OwnR w1 WE.heap.size 3 1 v1 T1) := O1
              clear O1 G1
              have S1 : Hid (WE.heap.size ≤ w1.heap.size) := U1.out.size
              go_wp2_with (at_builtin; refine wpList_append_row w1 rfl _ _ 23 3 _ 1 8 rfl Try.underlying23 Try.info3 rfl (by decide) WE.heap.size v1 T1 rfl O1'.out [.int .i64 (k : Int)] _ _ rfl rfl rfl rfl HO1.out HC3.out HC4.out S1.out ?_)
              intro v2 w2 O2 B2
              have U2 : Hid (Below WE.heap.size WE w2) := U1.out.trans B2
              have O2' : Hid (OwnR w2 WE.heap.size 3 1 v2 (T1 ++ [[Value.int .i64 (k : Int)]])) := O2
              clear O2 B2 O1' U1 S1
              have S2 : Hid (WE.heap.size ≤ w2.heap.size) := U2.out.size
              have HR4 : Hid (Rws 1 w2 (.slice (some ⟨bo, oo + k, none⟩) 0 (co - k)) T2) := HR3.out w2 U2.out
              go_wp2_with (at_builtin; refine wpList_append_rows _ rfl _ _ 23 3 _ 1 8 rfl Try.underlying23 Try.info3 rfl (by decide) WE.heap.size v2 (T1 ++ [[Value.int .i64 (k : Int)]]) rfl O2'.out (.slice (some ⟨bo, oo + k, none⟩) 0 (co - k)) T2 rfl HR4.out H1D.out HC5.out HC6.out S2.out ?_)
              intro v3 w3 O3 G3
              have U3 : Hid (Below WE.heap.size WE w3) := U2.out.grown G3 U2.out.size (fun q hq => (O2'.out.2.lt q hq).1)
              obtain ⟨a3, c3, rfl, _, _⟩ := (Rws.own O3).len
              have O4 := HE.out _ _ O3
              rw [HTD.out] at O4
              rw [HTD.out]
              have O5 : Hid (OwnR w3 w.heap.size 3 1 (.slice a3 (k + 1) c3) ((orderF LL (k + 1)).map inrow)) := O4
              clear O4 O3 G3
              have U5 : Hid (Below w.heap.size w w3) := up_trans UE.out U3.out
              go_wp2_with fail
              exact ⟨⟨k + 1, a3, c3, by omega, by go_num, rfl, O5, U5⟩, by simp [intOf]; omega⟩
    · have hlt' : ¬ (i : Int) < (es.length : Int) := by omega
      obtain rfl : i = es.length := by omega
      go_wp2_with fail
      go_ret
      exact ⟨ao, co, rfl, HO, HB⟩
end Go.Proofs.Ytmiokopnhkojoaa
