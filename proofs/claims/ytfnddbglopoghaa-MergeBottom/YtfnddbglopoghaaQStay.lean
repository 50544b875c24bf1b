/- The program's staying and withoutGoneEnd of layer 13. -/
import Derived.Test.YtfnddbglopoghaaQAt
namespace Go.Proofs.Ytfnddbglopoghaa
open Go.RowKit
set_option linter.unusedVariables false
set_option linter.unusedSimpArgs false

theorem Try.infoE : (Try.prog.info? 47).map (fun i => (i.zero, i.size, i.bytes)) = some (some (.agg #[.string ⟨#[]⟩, .int .i64 0, .int .i64 0, .string ⟨#[]⟩]), 4, 48) := by kernel_rfl
theorem enRow_one (x : En) : ∀ u ∈ enRow x, u.oneCell' = true := by
  intro u hu
  unfold enRow at hu
  simp only [List.mem_cons, List.mem_nil_iff, or_false] at hu
  rcases hu with rfl | rfl | rfl | rfl <;> rfl
theorem rows_oneE (l : List En) : ∀ cs ∈ l.map enRow, ∀ u ∈ cs, u.oneCell' = true := by
  intro cs h
  obtain ⟨x, _, rfl⟩ := List.mem_map.1 h
  exact enRow_one x
/-- Slices of versions in memory of one's own. -/
def OwnE (w : World) (base : Nat) (v : Value) (l : List En) : Prop := OwnR w base 47 4 v (l.map enRow)
theorem OwnE.up {w w' : World} {base : Nat} {v : Value} {l : List En} (h : OwnE w base v l) (hb : Below w.heap.size w w') : OwnE w' base v l := OwnR.up h hb
theorem OwnE.read {w : World} {base : Nat} {v : Value} {l : List En} (h : OwnE w base v l) : EntsR w v l := Rws.own h
theorem OwnE.mono {w : World} {base base' : Nat} {v : Value} {l : List En} (h : OwnE w base v l) (hb : base' ≤ base) : OwnE w base' v l := OwnR.mono h hb
theorem OwnE.form {w : World} {base : Nat} {v : Value} {l : List En} (h : OwnE w base v l) : ∃ a c, v = .slice a l.length c := by
  obtain ⟨a, c, e, _⟩ := h.read.len
  exact ⟨a, c, e⟩
/-- The stamp of a version that is boxed, and how often it was put. -/
theorem stampC (x : En) (hx : mayE x = true) (T : List En) (b N : Nat) (W : World) (hM : MapW W b T) (hB : BoxN W N x) :
    Calls Try.prog 43 #[.agg #[.string x.key, .int .i64 x.seq, .int .i64 x.kind, .string x.val]] W fun e w' => e = .returned (.agg #[.string x.key, .int .i64 x.seq]) ∧ (Instr.lookup 60 (.map (some b)) (.agg #[.string x.key, .int .i64 x.seq]) false).run Try.prog w' = .ok (.int .i64 (cntT T x : Int)) w' ∧ w'.cell? ⟨N, 0, none⟩ = some (.string x.key) ∧ w'.cell? ⟨N, 1, none⟩ = some (.int .i64 x.seq) ∧ w'.cell? ⟨N, 2, none⟩ = some (.int .i64 x.kind) ∧ w'.cell? ⟨N, 3, none⟩ = some (.string x.val) ∧ Hid (Below W.heap.size W w') := by
  refine (stampOf_any x W).mono ?_
  rintro e w' ⟨rfl, hw⟩
  have hb : Below W.heap.size W w' := by rw [hw]; exact up_al (up_alloc _ _) _
  obtain ⟨c0, c1, c2, c3⟩ := (hB.up hb).cells
  exact ⟨rfl, (hM.up hb).look hx, c0, c1, c2, c3, hb⟩
/-- What is seen. -/
def seenB (T : List En) (x : En) : Bool := decide (0 < cntT T x)
set_option maxHeartbeats 1000000 in
set_option maxRecDepth 100000 in
theorem staying_any (g : List En) (hg : ∀ x ∈ g, mayE x = true) (hl : g.length ≤ 2932031007402) (T : List En) (b : Nat) (a : Option Addr) (n c : Nat) (w : World) (hv : EntsR w (.slice a n c) g) (hM : MapW w b T) :
    Calls Try.prog 30 #[.slice a n c, .map (some b)] w fun e w' => ∃ a' n' c', e = .returned (.slice a' n' c') ∧ Hid (OwnE w' w.heap.size (.slice a' n' c') (g.filter (seenB T))) ∧ Hid (Below w.heap.size w w') := by
  have HV : Hid (EntsR w (.slice a n c) g ∧ MapW w b T) := ⟨hv, hM⟩
  have HG : Hid (∀ x ∈ g, mayE x = true) := hg
  obtain ⟨a1, c1, e1, hc, hm⟩ := hv.len
  simp only [Value.slice.injEq] at e1
  obtain ⟨rfl, hn, rfl⟩ := e1
  subst hn
  clear hv hM hg
  go_enter Try.func30, Try.ntmps30
  go_wp2_with fail
  go_loopw [10, 5] (fun i s wr => ∃ (k : Nat) (sa : Option Addr) (sn sc : Nat), k ≤ g.length ∧ i = .int .i64 k ∧ s = .slice sa sn sc ∧ Hid (OwnE wr w.heap.size (.slice sa sn sc) ((g.take k).filter (seenB T))) ∧ Hid (Below w.heap.size w wr)) (fun i _ _ => g.length - (intOf i).toNat)
  case atStart => exact ⟨0, none, 0, 0, Nat.zero_le _, rfl, rfl, OwnR.nil _ _ _ _, Below.refl _ _⟩
  case round =>
    obtain ⟨k, sa, sn, sc, hk, rfl, rfl, HO, HB⟩ := hrel
    by_cases hlt : k < g.length
    · have hlt' : (k : Int) < (g.length : Int) := by omega
      obtain ⟨b2, off, cap, x, e, hx, z0, z1, z2, z3⟩ := (HV.out.1.up HB.out).at k hlt
      simp only [Value.slice.injEq] at e
      obtain ⟨rfl, _, rfl⟩ := e
      have HMY : Hid (mayE x = true) := HG.out x (List.mem_of_getElem? hx)
      have HX : Hid (g[k]? = some x) := hx
      have UB : Hid (Below wr.heap.size wr (wr.alloc (enObj x))) := up_alloc _ _
      have BX : Hid (BoxN (wr.alloc (enObj x)) wr.heap.size x) := blk_new _ _
      have HST : Hid (Calls Try.prog 43 #[.agg #[.string x.key, .int .i64 x.seq, .int .i64 x.kind, .string x.val]] (wr.alloc (enObj x)) fun e w' => e = .returned (.agg #[.string x.key, .int .i64 x.seq]) ∧ (Instr.lookup 60 (.map (some b)) (.agg #[.string x.key, .int .i64 x.seq]) false).run Try.prog w' = .ok (.int .i64 (cntT T x : Int)) w' ∧ w'.cell? ⟨wr.heap.size, 0, none⟩ = some (.string x.key) ∧ w'.cell? ⟨wr.heap.size, 1, none⟩ = some (.int .i64 x.seq) ∧ w'.cell? ⟨wr.heap.size, 2, none⟩ = some (.int .i64 x.kind) ∧ w'.cell? ⟨wr.heap.size, 3, none⟩ = some (.string x.val) ∧ Hid (Below (wr.alloc (enObj x)).heap.size (wr.alloc (enObj x)) w')) := stampC x HMY.out T b wr.heap.size _ (HV.out.2.up (up_trans HB.out UB.out)) BX.out
      unfold enObj at HST UB BX
      have HFS : Hid ((g.take (k + 1)).filter (seenB T) = (g.take k).filter (seenB T) ++ (if seenB T x then [x] else [])) := by
        unfold Hid
        rw [List.take_add_one, HX.out, List.filter_append]
        congr 1
        by_cases q : seenB T x = true
        · simp [q]
        · simp [q]
      have HSB : Hid (seenB T x = decide (0 < cntT T x)) := rfl
      clear hx
      go_wp2_with fail
      refine HST.out.mono ?_
      rintro e w1 ⟨rfl, hlk, y0, y1, y2, y3, u1⟩
      have HO1 : Hid (OwnE w1 w.heap.size (.slice sa sn sc) ((g.take k).filter (seenB T))) := (HO.out.up UB.out).up u1.out
      have HB1 : Hid (Below w.heap.size w w1) := up_trans HB.out (up_trans UB.out u1.out)
      clear HST UB BX z0 z1 z2 z3 HO HB u1
      generalize wr.heap.size = NX at *
      by_cases hp : 0 < cntT T x
      · have hp' : (0 : Int) < (cntT T x : Int) := by omega
        have HR : Hid ((g.take (k + 1)).filter (seenB T) = (g.take k).filter (seenB T) ++ [x]) := by
          unfold Hid
          rw [HFS.out, HSB.out]
          simp [hp]
        have HLN : Hid (((g.take k).filter (seenB T)).length ≤ k) := by
          have := List.length_filter_le (seenB T) (g.take k)
          rw [List.length_take] at this
          unfold Hid
          omega
        clear HFS HSB
        generalize (g.take k).filter (seenB T) = G at *
        have hb1 : (((G.map enRow).length + 1) + ((G.map enRow).length + 1) / 4 + 192) * 48 ≤ 281474976710656 := by
          have := HLN.out
          rw [List.length_map]
          omega
        have hb2 : (G.map enRow).length + 1 ≤ maxLen := by
          have := HLN.out
          rw [List.length_map]
          unfold maxLen
          omega
        have HC := hid (And.intro hb1 (And.intro hb2 HB1.out.size))
        clear hb1 hb2
        go_wp2_with (at_builtin; refine wpList_append_row w1 rfl _ _ 22 47 _ 4 48 rfl Try.underlying22 Try.infoE rfl (by decide) w.heap.size (.slice sa sn sc) (G.map enRow) rfl HO1.out (enRow x) _ _ rfl rfl rfl rfl (enRow_one x) HC.out.1 HC.out.2.1 HC.out.2.2 ?_)
        intro v' w' hown hgr
        have HO2 : Hid (OwnE w' w.heap.size v' ((g.take (k + 1)).filter (seenB T))) := by
          unfold Hid OwnE
          rw [HR.out, List.map_append]
          exact hown
        obtain ⟨a3, c3, ev⟩ := HO2.out.form
        subst ev
        have HB2 : Hid (Below w.heap.size w w') := HB1.out.trans hgr
        clear hown hgr
        go_wp2_with fail
        exact ⟨⟨k + 1, a3, _, c3, by omega, by go_num, rfl, HO2, HB2⟩, by simp [intOf]; omega⟩
      · have hp' : ¬ (0 : Int) < (cntT T x : Int) := by omega
        have HR : Hid ((g.take (k + 1)).filter (seenB T) = (g.take k).filter (seenB T)) := by
          unfold Hid
          rw [HFS.out, HSB.out]
          simp [hp]
        clear HFS HSB
        go_wp2_with fail
        exact ⟨⟨k + 1, sa, sn, sc, by omega, by go_num, rfl, by unfold Hid; rw [HR.out]; exact HO1.out, HB1⟩, by simp [intOf]; omega⟩
    · have hlt' : ¬ (k : Int) < (g.length : Int) := by omega
      obtain rfl : k = g.length := by omega
      rw [List.take_length] at HO
      go_wp2_with fail
      go_ret
      exact ⟨_, _, _, rfl, HO, HB⟩
/-- Without what is gone at the end. -/
theorem cut_take : ∀ (l : List En) (n : Nat), n ≤ l.length → (∀ m y, n ≤ m → l[m]? = some y → y.kind = 2) → (∀ y, 0 < n → l[n - 1]? = some y → y.kind ≠ 2) → cutM l = l.take n
  | [], n, h, _, _ => by simp at h; rw [h]; rfl
  | x :: r, 0, _, h2, _ => by
    have ih := cut_take r 0 (Nat.zero_le _) (fun m y _ hy => h2 (m + 1) y (Nat.zero_le _) (by simpa using hy)) (fun y h => by omega)
    rw [List.take_zero] at ih
    unfold cutM
    rw [ih, List.take_zero]
    exact if_pos (h2 0 x (Nat.zero_le _) rfl)
  | x :: r, n + 1, h, h2, h3 => by
    simp only [List.length_cons] at h
    have ih := cut_take r n (by omega) (fun m y hm hy => h2 (m + 1) y (by omega) (by simpa using hy)) (fun y h0 hy => h3 y (by omega) (by
      obtain ⟨j, rfl⟩ : ∃ j, n = j + 1 := ⟨n - 1, by omega⟩
      simpa using hy))
    unfold cutM
    rw [ih, List.take_succ_cons]
    cases hq : r.take n with
    | cons y q => rfl
    | nil =>
      have hn0 : n = 0 := by
        have := congrArg List.length hq
        simp only [List.length_take, List.length_nil] at this
        omega
      subst hn0
      exact if_neg (h3 x (by omega) rfl)
set_option maxHeartbeats 1000000 in
set_option maxRecDepth 100000 in
theorem goneEnd_any (g : List En) (base : Nat) (a : Option Addr) (n c : Nat) (w : World) (hv : EntsR w (.slice a n c) g) :
    Calls Try.prog 31 #[.slice a n c] w fun e w' => ∃ a' n' c', e = .returned (.slice a' n' c') ∧ Hid (EntsR w' (.slice a' n' c') (cutM g)) ∧ Hid (Below w.heap.size w w') := by
  have HV : Hid (EntsR w (.slice a n c) g) := hv
  obtain ⟨a1, c1, e1, hc, hm⟩ := hv.len
  simp only [Value.slice.injEq] at e1
  obtain ⟨rfl, hn, rfl⟩ := e1
  subst hn
  have hl63 : g.length ≤ 9223372036854775807 := by unfold maxLen at hm; omega
  clear hv
  go_enter Try.func31, Try.ntmps31
  go_wp2_with fail
  go_loopw [3] (fun i wr => ∃ k : Nat, k ≤ g.length ∧ i = .int .i64 k ∧ Hid (∀ m y, k ≤ m → g[m]? = some y → y.kind = 2) ∧ wr = w) (fun i _ => (intOf i).toNat)
  case atStart => exact ⟨g.length, Nat.le_refl _, rfl, (fun m y hm hy => by have := (List.getElem?_eq_some_iff.1 hy).1; omega), rfl⟩
  case round =>
    obtain ⟨k, hk, rfl, HK, rfl⟩ := hrel
    have HEND : Hid ((∀ y, 0 < k → g[k - 1]? = some y → y.kind ≠ 2) → EntsR wr (.slice a k c) (cutM g)) := by
      intro h
      rw [cut_take g k hk HK.out h]
      have := Rws.first HV.out k (by simpa using hk)
      unfold EntsR
      rw [List.map_take]
      exact this
    by_cases h0 : k = 0
    · subst h0
      have HE : Hid (EntsR wr (.slice a 0 c) (cutM g)) := HEND.out (fun y h => by omega)
      clear HEND
      go_wp2_with fail
      go_ret
      exact ⟨_, _, _, rfl, HE, Below.refl _ _⟩
    · obtain ⟨j, hj⟩ : ∃ j, k = j + 1 := ⟨k - 1, by omega⟩
      obtain ⟨b2, off, cap, x, e, hx, z0, z1, z2, z3⟩ := HV.out.at j (by omega)
      simp only [Value.slice.injEq] at e
      obtain ⟨rfl, _, rfl⟩ := e
      have hjj : (k : Int) - 1 = (j : Int) := by omega
      have hj0 : 0 < k := by omega
      have hwj : IntKind.i64.wrap (j : Int) = (j : Int) := by rw [IntKind.wrap_i64]; omega
      have hjl : (j : Int) < (g.length : Int) := by omega
      have HX : Hid (g[j]? = some x) := hx
      have HJ : Hid (k = j + 1) := hj
      have HX2 : Hid (g[k - 1]? = some x) := by unfold Hid; rw [hj]; exact hx
      clear hx hj
      by_cases h2 : x.kind = 2
      · have h2' : (x.kind == 2) = true := by simp [h2]
        have HK2 : Hid (∀ m y, j ≤ m → g[m]? = some y → y.kind = 2) := by
          intro m y hm hy
          by_cases q : m = j
          · subst q
            rw [HX.out] at hy
            cases hy
            exact h2
          · exact HK.out m y (by have := HJ.out; omega) hy
        clear HEND h2
        go_wp2_with fail
        exact ⟨⟨j, by omega, rfl, HK2, trivial⟩, by simp [intOf]; omega⟩
      · have h2' : (x.kind == 2) = false := by simp [h2]
        have HE : Hid (EntsR wr (.slice (some ⟨b2, off, none⟩) k c) (cutM g)) := HEND.out (fun y _ hy => by
          rw [HX2.out] at hy
          cases hy
          exact h2)
        have hkc : k ≤ c := by omega
        clear HEND h2
        go_wp2_with fail
        go_ret
        exact ⟨_, _, _, rfl, HE, Below.refl _ _⟩
end Go.Proofs.Ytfnddbglopoghaa
