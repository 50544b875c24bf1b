/- The texts R5, R6, R7, W1, T1, T4, X1, in this order. -/
import Derived.Test.YtnchjlimkgbfpaaGreatDoorG16
import Derived.Lib.SlBytesConst
import Derived.Test.YtnchjlimkgbfpaaGreatDoorG17
import Derived.Deep.QuietTactic
import Derived.BigQuiet

/- The program's Run. -/
namespace Go.Proofs.YtnchjlimkgbfpaaGreatDoor
open Go.RowKit
set_option linter.unusedVariables false
set_option maxRecDepth 20000
set_option linter.unusedSimpArgs false

theorem results_state2 {fn : Func} {r k j : Nat} (h : fn.results = #[.cell r 35, .tmp k, .tmp j]) (tmps : Array Value) (w : World) {N : Nat} {a b c d e x y : Value} (ht : tmps.getD r undef = .pointer (some ⟨N, 0, none⟩)) (hx : tmps.getD k undef = x) (hy : tmps.getD j undef = y)
    (hc : w.heap[N]? = some (.cells #[a, b, c, d, e] 35)) : (results fn tmps).run Tryz.prog w = .ok (.tuple #[.agg #[a, b, c, d, e], x, y]) w := by
  have c0 := blk_cell hc 0 a rfl
  have c1 := blk_cell hc 1 b rfl
  have c2 := blk_cell hc 2 c rfl
  have c3 := blk_cell hc 3 d rfl
  have c4 := blk_cell hc 4 e rfl
  have ht' : tmps[r]?.getD undef = .pointer (some ⟨N, 0, none⟩) := by simpa using ht
  have hx' : tmps[k]?.getD undef = x := by simpa using hx
  have hy' : tmps[j]?.getD undef = y := by simpa using hy
  simp only [results, h]
  simp [ht', hx', hy', go_sem, c0, c1, c2, c3, c4]

/-- Acts, as they are read. -/
abbrev ARow := Value × Ac
def arow (y : ARow) : List Value := [.int .i64 y.2.what, .string (strOfNums y.2.name), .string (strOfNums y.2.dest), y.1]
def ActsW (w : World) (v : Value) (l : List Ac) : Prop := ∃ m : List ARow, m.map (·.2) = l ∧ Rws 4 w v (m.map arow) ∧ ∀ y ∈ m, Octs w y.1 y.2.data ∧ okAc y.2
theorem ActsW.up {w w' : World} {v : Value} {l : List Ac} (h : ActsW w v l) (hb : Below w.heap.size w w') : ActsW w' v l := by
  obtain ⟨m, h1, h2, h3⟩ := h
  exact ⟨m, h1, h2.up hb, fun y hy => ⟨(h3 y hy).1.up hb, (h3 y hy).2⟩⟩
theorem ActsW.len {w : World} {v : Value} {l : List Ac} (h : ActsW w v l) : ∃ a cap, v = .slice a l.length cap ∧ l.length ≤ cap ∧ cap ≤ maxLen := by
  obtain ⟨m, rfl, h2, _⟩ := h
  obtain ⟨a, cap, e, h1, h2⟩ := h2.len
  rw [List.length_map] at e h1
  rw [List.length_map]
  exact ⟨a, cap, e, h1, h2⟩
def noAc : Ac := ⟨0, [], [], []⟩
theorem ActsW.at {w : World} {v : Value} {l : List Ac} (h : ActsW w v l) (k : Nat) (hk : k < l.length) : ∃ b off cap ad cd, v = .slice (some ⟨b, off, none⟩) l.length cap ∧
    w.cell? ⟨b, off + k * 4, none⟩ = some (.int .i64 (l.getD k noAc).what) ∧ w.cell? ⟨b, off + k * 4 + 1, none⟩ = some (.string (strOfNums (l.getD k noAc).name)) ∧ w.cell? ⟨b, off + k * 4 + 2, none⟩ = some (.string (strOfNums (l.getD k noAc).dest)) ∧ w.cell? ⟨b, off + k * 4 + 3, none⟩ = some (.slice ad (l.getD k noAc).data.length cd) ∧
    AcW w (.agg #[.int .i64 (l.getD k noAc).what, .string (strOfNums (l.getD k noAc).name), .string (strOfNums (l.getD k noAc).dest), .slice ad (l.getD k noAc).data.length cd]) (l.getD k noAc) := by
  obtain ⟨m, rfl, h2, h3⟩ := h
  rw [List.length_map] at hk ⊢
  obtain ⟨b, off, cap, e, _, _, hc⟩ := h2.at k (by rw [List.length_map]; exact hk)
  rw [List.length_map] at e
  have hr : (m.map arow).getD k [] = arow m[k] := by simp [List.getD, hk]
  have hr2 : (m.map (·.2)).getD k noAc = m[k].2 := by simp [List.getD, hk]
  rw [hr] at hc
  rw [hr2]
  have h4 := h3 m[k] (List.getElem_mem hk)
  obtain ⟨ad, cd, evd, _⟩ := h4.1.slice
  have c0 := hc 0 _ rfl
  have c1 := hc 1 _ rfl
  have c2 := hc 2 _ rfl
  have c3 := hc 3 _ rfl
  rw [evd] at c3 h4
  exact ⟨b, off, cap, ad, cd, e, c0, c1, c2, c3, _, rfl, h4.1, h4.2⟩

/-- The state behind k acts. -/
def afterN (s : St) (l : List Ac) (k : Nat) : St := (l.take k).foldl (fun s a => (actP s a).1) s
theorem afterN_zero (s : St) (l : List Ac) : afterN s l 0 = s := rfl
theorem afterN_succ (s : St) (l : List Ac) (k : Nat) (hk : k < l.length) : afterN s l (k + 1) = (actP (afterN s l k) (l.getD k noAc)).1 := by
  unfold afterN
  rw [take_snoc l k noAc hk, List.foldl_append]
  rfl

def goP : St → List Ac → St × Int × Int
  | s, [] => (s, 0, 0)
  | s, a :: l => if (actP s a).2 = 0 then ((goP (actP s a).1 l).1, (goP (actP s a).1 l).2.1 + 1, (goP (actP s a).1 l).2.2) else ((actP s a).1, 0, (actP s a).2)

theorem goP_at : ∀ (l : List Ac) (s : St) (k : Nat), k ≤ l.length → (∀ j, j < k → (actP (afterN s l j) (l.getD j noAc)).2 = 0) → goP s l = ((goP (afterN s l k) (l.drop k)).1, (goP (afterN s l k) (l.drop k)).2.1 + k, (goP (afterN s l k) (l.drop k)).2.2)
  | l, s, 0, _, _ => by simp [afterN_zero]
  | [], s, k + 1, hk, _ => by simp at hk
  | a :: l, s, k + 1, hk, h => by
    have h0 : (actP s a).2 = 0 := h 0 (by omega)
    have hn : ∀ j, afterN s (a :: l) (j + 1) = afterN (actP s a).1 l j := fun j => rfl
    have ih := goP_at l (actP s a).1 k (by simpa using hk) (fun j hj => by
      have := h (j + 1) (by omega)
      rw [hn] at this
      simpa using this)
    rw [hn, List.drop_succ_cons, goP, if_pos h0, ih]
    simp
    omega

def runP (s : St) (l : List Ac) : St × Int × Int := if checkP s then goP s l else (z0, 0, 9)

def OkTo (s : St) (l : List Ac) (k : Nat) : Prop := ∀ j, j < k → (actP (afterN s l j) (l.getD j noAc)).2 = 0
theorem run_end {s : St} {l : List Ac} (h : OkTo s l l.length) : goP s l = (afterN s l l.length, (l.length : Int), 0) := by
  rw [goP_at l s l.length (Nat.le_refl _) h, List.drop_length]
  simp [goP]
theorem run_stop {s : St} {l : List Ac} {k : Nat} (h : OkTo s l k) (hk : k < l.length) (hz : ¬ (actP (afterN s l k) (l.getD k noAc)).2 = 0) : goP s l = ((actP (afterN s l k) (l.getD k noAc)).1, (k : Int), (actP (afterN s l k) (l.getD k noAc)).2) := by
  rw [goP_at l s k (by omega) h]
  have e : l.drop k = l.getD k noAc :: l.drop (k + 1) := by
    rw [List.drop_eq_getElem_cons hk]
    simp [List.getD, hk]
  rw [e, goP, if_neg hz]
  simp
theorem okTo_succ {s : St} {l : List Ac} {k : Nat} (h : OkTo s l k) (hz : (actP (afterN s l k) (l.getD k noAc)).2 = 0) : OkTo s l (k + 1) := by
  intro j hj
  by_cases e : j = k
  · rw [e]; exact hz
  · exact h j (by omega)

theorem run_next {s : St} {l : List Ac} {w1 y w3 : World} {B : Nat} {k : Nat} {ix : Value} (hk : k < l.length) (hx : ix = .int .i64 ((k + 1 : Nat) : Int)) (O : Hid (OwnS w3 w1.heap.size B (afterN s l (k + 1)))) (be : Hid (Beside w1.heap.size B y w3)) (ok : Hid (OkTo s l (k + 1))) :
    (∃ (k : Nat), k ≤ l.length ∧ ix = .int .i64 k ∧ Hid (OwnS w3 w1.heap.size B (afterN s l k)) ∧ Hid (Beside w1.heap.size B y w3) ∧ Hid (OkTo s l k)) ∧ l.length - (intOf ix).toNat < l.length - (intOf (Value.int .i64 (k : Int))).toNat := by
  refine ⟨⟨k + 1, by omega, hx, O, be, ok⟩, ?_⟩
  subst hx
  simp only [intOf]
  omega

set_option maxHeartbeats 4000000 in
set_option maxRecDepth 20000 in
theorem run_any (s : St) (l : List Ac) (v vk : Value) (w : World) (hv : StW w v s) (hk : ActsW w vk l) (hl : s.names.length + s.safe.length ≤ 9223372036854775807) (hall : checkP s = true → ∀ k, k ≤ l.length → Sound (afterN s l k)) :
    Calls Tryz.prog 64 #[v, vk] w fun e w' => ∃ v', e = .returned (.tuple #[v', .int .i64 (runP s l).2.1, .int .i64 (runP s l).2.2]) ∧ OwnV w' w.heap.size v' (runP s l).1 ∧ Below w.heap.size w w' := by
  have HA : Hid (checkP s = true → ∀ k, k ≤ l.length → Sound (afterN s l k)) := hall
  clear hall
  obtain ⟨af, nf, cf, an, nn, cn, as', ns, cs', ev⟩ := hv.shape
  obtain ⟨ak, ck, evk, hck, hmk⟩ := hk.len
  subst evk
  subst ev
  obtain ⟨B, hB⟩ : ∃ B, B = w.heap.size := ⟨_, rfl⟩
  obtain ⟨wx, hwx⟩ : ∃ wx, wx = (w.alloc (.cells #[.int .i64 s.cap, .slice af nf cf, .slice an nn cn, .slice as' ns cs', .int .i64 s.next] 35)).alloc (.cells #[.int .i64 0, .slice none 0 0, .slice none 0 0, .slice none 0 0, .int .i64 0] 35) := ⟨_, rfl⟩
  have HX : Hid ((w.alloc (.cells #[.int .i64 s.cap, .slice af nf cf, .slice an nn cn, .slice as' ns cs', .int .i64 s.next] 35)).alloc (.cells #[.int .i64 0, .slice none 0 0, .slice none 0 0, .slice none 0 0, .int .i64 0] 35) = wx) := hwx.symm
  have b0 : wx.heap[B]? = some (.cells #[.int .i64 s.cap, .slice af nf cf, .slice an nn cn, .slice as' ns cs', .int .i64 s.next] 35) := by
    rw [hwx, hB]
    exact blk_two0 w _ _
  have b2 : wx.heap[B + 1]? = some (.cells #[.int .i64 0, .slice none 0 0, .slice none 0 0, .slice none 0 0, .int .i64 0] 35) := by
    rw [hwx, hB]
    exact blk_two1 w _ _
  have up : Hid (Below w.heap.size w wx) := by rw [hwx]; exact up_al (up_al (Below.refl _ _) _) _
  have HB : Hid (wx.heap[B]? = some (.cells #[.int .i64 s.cap, .slice af nf cf, .slice an nn cn, .slice as' ns cs', .int .i64 s.next] 35) ∧ wx.heap[B + 1]? = some (.cells #[.int .i64 0, .slice none 0 0, .slice none 0 0, .slice none 0 0, .int .i64 0] 35)) := ⟨b0, b2⟩
  have HS : Hid (StW w (.agg #[.int .i64 s.cap, .slice af nf cf, .slice an nn cn, .slice as' ns cs', .int .i64 s.next]) s ∧ ActsW w (.slice ak l.length ck) l ∧ B = w.heap.size) := ⟨hv, hk, hB⟩
  clear b0 b2 hwx hv hk
  go_enter Tryz.func64, Tryz.ntmps64
  go_upto_region 1 with fail
  rw [HX.out, ← hB]
  clear HX hB
  have q0 := blk_cell HB.out.1 0 _ rfl
  have q1 := blk_cell HB.out.1 1 _ rfl
  have q2 := blk_cell HB.out.1 2 _ rfl
  have q3 := blk_cell HB.out.1 3 _ rfl
  have q4 := blk_cell HB.out.1 4 _ rfl
  have hc := check_any s _ wx (HS.out.1.up up.out) hl
  cases hchk : checkP s with
  | false =>
    have HR : Hid (runP s l = (z0, 0, 9)) := by unfold Hid runP; rw [hchk]; rfl
    rw [hchk] at hc
    have he : errOf false = 9 := rfl
    rw [he] at hc
    clear hchk he
    go_wp2_with fail
    refine hc.mono ?_
    rintro e w1 ⟨rfl, u1⟩
    have HB1 : Hid (w1.heap[B + 1]? = some (.cells #[.int .i64 0, .slice none 0 0, .slice none 0 0, .slice none 0 0, .int .i64 0] 35)) := blk_up HB.out.2 u1
    have up1 : Hid (Below w.heap.size w w1) := up_trans up.out u1
    clear u1 hc q0 q1 q2 q3 q4
    have x0 := blk_cell HB1.out 0 _ rfl
    have x1 := blk_cell HB1.out 1 _ rfl
    have x2 := blk_cell HB1.out 2 _ rfl
    have x3 := blk_cell HB1.out 3 _ rfl
    have x4 := blk_cell HB1.out 4 _ rfl
    have f0 := blk_frozen HB1.out 0
    have f1 := blk_frozen HB1.out 1
    have f2 := blk_frozen HB1.out 2
    have f3 := blk_frozen HB1.out 3
    have f4 := blk_frozen HB1.out 4
    go_wp2_with fail
    have b5 := set5_blk HB1.out (.int .i64 0) (.slice none 0 0) (.slice none 0 0) (.slice none 0 0) (.int .i64 0)
    refine bodyPost_ret (results_state2 rfl _ _ rfl rfl rfl b5) rfl ?_
    rw [HR.out]
    refine ⟨_, rfl, OwnV.zero _ _ 0 0 in64_0 in64_0, ?_⟩
    exact up1.out.grown (set5_grown _ _ _ _ _ _ _) up1.out.size (fun j hj => by injection hj with hj; rw [← hj, HS.out.2.2]; omega)
  | true =>
    have HSo : Hid (Sound s ∧ ∀ k, k ≤ l.length → Sound (afterN s l k)) := ⟨check_sound hchk, HA.out hchk⟩
    have HR : Hid (runP s l = goP s l) := by unfold Hid runP; rw [hchk]; rfl
    rw [hchk] at hc
    have he : errOf true = 0 := rfl
    rw [he] at hc
    clear hchk he
    go_wp2_with fail
    refine hc.mono ?_
    rintro e w1 ⟨rfl, u1⟩
    have HB1 : Hid (w1.heap[B]? = some (.cells #[.int .i64 s.cap, .slice af nf cf, .slice an nn cn, .slice as' ns cs', .int .i64 s.next] 35) ∧ w1.heap[B + 1]? = some (.cells #[.int .i64 0, .slice none 0 0, .slice none 0 0, .slice none 0 0, .int .i64 0] 35)) := ⟨blk_up HB.out.1 u1, blk_up HB.out.2 u1⟩
    have up1 : Hid (Below w.heap.size w w1) := up_trans up.out u1
    clear u1 hc q0 q1 q2 q3 q4
    have q0 := blk_cell HB1.out.1 0 _ rfl
    have q1 := blk_cell HB1.out.1 1 _ rfl
    have q2 := blk_cell HB1.out.1 2 _ rfl
    have q3 := blk_cell HB1.out.1 3 _ rfl
    have q4 := blk_cell HB1.out.1 4 _ rfl
    go_wp2_with fail
    refine (copied_anyG s _ w1 (HS.out.1.up up1.out) HSo.out.1.1.1 HSo.out.1.1.2.1 HSo.out.1.1.2.2.1).mono ?_
    rintro e w2 ⟨v2, rfl, ov2, u2⟩
    obtain ⟨a1, n1, c1, a2, n2, c2, a3, n3, c3, ev2⟩ := ov2.shape
    subst ev2
    have hb2 : w2.heap[B]? = some (.cells #[.int .i64 s.cap, .slice af nf cf, .slice an nn cn, .slice as' ns cs', .int .i64 s.next] 35) := blk_up HB1.out.1 u2
    have hpt := ov2.put hb2
    have g5 := set5_grown w2 B (.int .i64 s.cap) (.slice a1 n1 c1) (.slice a2 n2 c2) (.slice a3 n3 c3) (.int .i64 s.next)
    clear q0 q1 q2 q3 q4
    have q0 := blk_cell hb2 0 _ rfl
    have q1 := blk_cell hb2 1 _ rfl
    have q2 := blk_cell hb2 2 _ rfl
    have q3 := blk_cell hb2 3 _ rfl
    have q4 := blk_cell hb2 4 _ rfl
    have f0 := blk_frozen hb2 0
    have f1 := blk_frozen hb2 1
    have f2 := blk_frozen hb2 2
    have f3 := blk_frozen hb2 3
    have f4 := blk_frozen hb2 4
    have HBl : Hid (B + 1 < w1.heap.size) := blk_lt HB1.out.2
    go_upto_region 5 with fail
    obtain ⟨y, hy⟩ : ∃ y, y = set5 w2 B (.int .i64 s.cap) (.slice a1 n1 c1) (.slice a2 n2 c2) (.slice a3 n3 c3) (.int .i64 s.next) := ⟨_, rfl⟩
    have hy' : ((((w2.setCell ⟨B, 0, none⟩ (.int .i64 s.cap)).setCell ⟨B, 1, none⟩ (.slice a1 n1 c1)).setCell ⟨B, 2, none⟩ (.slice a2 n2 c2)).setCell ⟨B, 3, none⟩ (.slice a3 n3 c3)).setCell ⟨B, 4, none⟩ (.int .i64 s.next) = y := by rw [hy]; rfl
    rw [hy']
    rw [← hy] at hpt g5
    have uy : Below w.heap.size w y := (up_trans up1.out u2).grown g5 (Nat.le_trans up1.out.size u2.size) (fun j hj => by injection hj with hj; rw [← hj, HS.out.2.2]; exact Nat.le_refl _)
    have HY : Hid (OwnS y w1.heap.size B s ∧ y.heap[B + 1]? = some (.cells #[.int .i64 0, .slice none 0 0, .slice none 0 0, .slice none 0 0, .int .i64 0] 35) ∧ Below w.heap.size w y ∧ w1.heap.size ≤ y.heap.size) :=
      ⟨hpt.1, blk_grown (blk_up HB1.out.2 u2) g5 (by simp), uy, Nat.le_trans u2.size g5.size⟩
    clear q0 q1 q2 q3 q4 f0 f1 f2 f3 f4 hb2 hpt g5 hy hy' ov2 u2 uy
    have hckm : l.length ≤ 9223372036854775807 := by unfold maxLen at hmk; omega
    go_wp2_with fail
    go_loopw [21] (fun ix wr => ∃ (k : Nat), k ≤ l.length ∧ ix = .int .i64 k ∧ Hid (OwnS wr w1.heap.size B (afterN s l k)) ∧ Hid (Beside w1.heap.size B y wr) ∧ Hid (OkTo s l k)) (fun ix _ => l.length - (intOf ix).toNat)
    case atStart => exact ⟨0, Nat.zero_le _, rfl, HY.out.1, Beside.refl _ _ _, fun j hj => by omega⟩
    case round =>
      obtain ⟨k, hk, rfl, HO, be, ok⟩ := hrel
      have upr : Hid (Below w.heap.size w wr) := HY.out.2.2.1.trans ⟨be.out.os, be.out.tape, be.out.output, be.out.size, fun j hj => be.out.block j (by have := up1.out.size; omega) (by rw [HS.out.2.2]; omega)⟩
      have hb3 : w1.heap.size ≤ wr.heap.size := Nat.le_trans HY.out.2.2.2 be.out.size
      by_cases hlt : k < l.length
      · have hlt' : (k : Int) < (l.length : Int) := by omega
        obtain ⟨bk, ok', cpk, ad, cd, ek, k0, k1, k2, k3, hac⟩ := (HS.out.2.1.up upr.out).at k hlt
        simp at ek
        obtain ⟨rfl, rfl⟩ := ek
        obtain ⟨a, ha⟩ : ∃ a, a = l.getD k noAc := ⟨_, rfl⟩
        rw [← ha] at k0 k1 k2 k3 hac
        obtain ⟨dn, hdn⟩ : ∃ dn, dn = a.data.length := ⟨_, rfl⟩
        rw [← hdn] at k3 hac
        have HAc : Hid (AcW wr (.agg #[.int .i64 a.what, .string (strOfNums a.name), .string (strOfNums a.dest), .slice ad dn cd]) a) := hac
        have HAd : Hid (a = l.getD k noAc) := ha
        have HK : Hid (k < l.length) := hlt
        clear hac ha hdn
        obtain ⟨wz, hwz⟩ : ∃ wz, wz = wr.alloc (.cells #[.int .i64 a.what, .string (strOfNums a.name), .string (strOfNums a.dest), .slice ad dn cd] 94) := ⟨_, rfl⟩
        have uz : Hid (Below wr.heap.size wr wz) := by rw [hwz]; exact up_al (Below.refl _ _) _
        have HWZ : Hid (wr.alloc (.cells #[.int .i64 a.what, .string (strOfNums a.name), .string (strOfNums a.dest), .slice ad dn cd] 94) = wz) := hwz.symm
        clear hwz
        go_wp2_with fail
        rw [HWZ.out]
        refine (act_any (afterN s l k) a _ w1.heap.size B wz (HO.out.up uz.out) (HSo.out.2 k (Nat.le_of_lt HK.out)) (HAc.out.up uz.out) (Nat.le_trans hb3 uz.out.size)).mono ?_
        rintro e w4 ⟨rfl, os4, be4⟩
        have HO4 : Hid (OwnS w4 w1.heap.size B (actP (afterN s l k) a).1 ∧ Beside w1.heap.size B y w4) := ⟨os4, (be.out.trans (Below_beside uz.out hb3)).trans be4⟩
        clear os4 be4 k0 k1 k2 k3
        by_cases hz : (actP (afterN s l k) a).2 = 0
        · have HN : Hid (OwnS w4 w1.heap.size B (afterN s l (k + 1))) := by
            unfold Hid
            rw [afterN_succ s l k HK.out, ← HAd.out]
            exact HO4.out.1
          have HOk : Hid (OkTo s l (k + 1)) := okTo_succ ok.out (by rw [← HAd.out]; exact hz)
          have HB4 : Hid (Beside w1.heap.size B y w4) := HO4.out.2
          go_wp2_with fail
          exact run_next HK.out (by go_num) HN HB4 HOk
        · have hz' : ((actP (afterN s l k) a).2 == 0) = false := by rw [beq_eq_false_iff_ne]; exact hz
          have HG : Hid (runP s l = ((actP (afterN s l k) a).1, (k : Int), (actP (afterN s l k) a).2)) := by
            unfold Hid
            rw [HR.out, HAd.out]
            exact run_stop ok.out HK.out (by rw [← HAd.out]; exact hz)
          have HZ : Hid ((runP s l).2.1 = (k : Int) ∧ (runP s l).2.2 = (actP (afterN s l k) a).2) := by
            unfold Hid
            rw [HG.out]
            exact ⟨rfl, rfl⟩
          have HE : Hid (OwnS w4 w1.heap.size B (runP s l).1 ∧ Below w.heap.size w w4 ∧ w4.heap[B + 1]? = some (.cells #[.int .i64 0, .slice none 0 0, .slice none 0 0, .slice none 0 0, .int .i64 0] 35)) := by
            have bb := HO4.out.2
            refine ⟨by rw [HG.out]; exact HO4.out.1, ?_, ?_⟩
            · exact HY.out.2.2.1.trans ⟨bb.os, bb.tape, bb.output, bb.size, fun j hj => bb.block j (by have := up1.out.size; omega) (by rw [HS.out.2.2]; omega)⟩
            · exact (bb.block (B + 1) HBl.out (by omega)).trans HY.out.2.1
          obtain ⟨vf3, vn3, vs3, hb4, ov3⟩ := HE.out.1.take
          obtain ⟨a4, n4, c4, a5, n5, c5, a7, n7, c7, ev4⟩ := ov3.shape
          simp at ev4
          obtain ⟨rfl, rfl, rfl⟩ := ev4
          have q0 := blk_cell hb4 0 _ rfl
          have q1 := blk_cell hb4 1 _ rfl
          have q2 := blk_cell hb4 2 _ rfl
          have q3 := blk_cell hb4 3 _ rfl
          have q4 := blk_cell hb4 4 _ rfl
          have x0 := blk_cell HE.out.2.2 0 _ rfl
          have x1 := blk_cell HE.out.2.2 1 _ rfl
          have x2 := blk_cell HE.out.2.2 2 _ rfl
          have x3 := blk_cell HE.out.2.2 3 _ rfl
          have x4 := blk_cell HE.out.2.2 4 _ rfl
          have f0 := blk_frozen HE.out.2.2 0
          have f1 := blk_frozen HE.out.2.2 1
          have f2 := blk_frozen HE.out.2.2 2
          have f3 := blk_frozen HE.out.2.2 3
          have f4 := blk_frozen HE.out.2.2 4
          have HP : Hid (OwnV (set5 w4 (B + 1) (.int .i64 (runP s l).1.cap) (.slice a4 n4 c4) (.slice a5 n5 c5) (.slice a7 n7 c7) (.int .i64 (runP s l).1.next)) w1.heap.size (.agg #[.int .i64 (runP s l).1.cap, .slice a4 n4 c4, .slice a5 n5 c5, .slice a7 n7 c7, .int .i64 (runP s l).1.next]) (runP s l).1) := (ov3.put HE.out.2.2).2
          clear ov3 hb4
          go_wp2_with fail
          have b5 := set5_blk HE.out.2.2 (.int .i64 (runP s l).1.cap) (.slice a4 n4 c4) (.slice a5 n5 c5) (.slice a7 n7 c7) (.int .i64 (runP s l).1.next)
          refine bodyPost_ret (results_state2 rfl _ _ rfl rfl rfl b5) rfl ?_
          rw [HZ.out.1, HZ.out.2]
          refine ⟨_, rfl, HP.out.mono up1.out.size, ?_⟩
          exact HE.out.2.1.grown (set5_grown _ _ _ _ _ _ _) HE.out.2.1.size (fun j hj => by injection hj with hj; rw [← hj, HS.out.2.2]; omega)
      · have hlt' : ¬ (k : Int) < (l.length : Int) := by omega
        obtain rfl : k = l.length := by omega
        have HG : Hid (runP s l = (afterN s l l.length, (l.length : Int), 0)) := by
          unfold Hid
          rw [HR.out]
          exact run_end ok.out
        have HZ : Hid ((runP s l).2.1 = (l.length : Int) ∧ (runP s l).2.2 = 0) := by
          unfold Hid
          rw [HG.out]
          exact ⟨rfl, rfl⟩
        have HE : Hid (OwnS wr w1.heap.size B (runP s l).1 ∧ Below w.heap.size w wr ∧ wr.heap[B + 1]? = some (.cells #[.int .i64 0, .slice none 0 0, .slice none 0 0, .slice none 0 0, .int .i64 0] 35)) := by
          have bb := be.out
          refine ⟨by rw [HG.out]; exact HO.out, upr.out, ?_⟩
          exact (bb.block (B + 1) HBl.out (by omega)).trans HY.out.2.1
        obtain ⟨vf3, vn3, vs3, hb4, ov3⟩ := HE.out.1.take
        obtain ⟨a4, n4, c4, a5, n5, c5, a7, n7, c7, ev4⟩ := ov3.shape
        simp at ev4
        obtain ⟨rfl, rfl, rfl⟩ := ev4
        have q0 := blk_cell hb4 0 _ rfl
        have q1 := blk_cell hb4 1 _ rfl
        have q2 := blk_cell hb4 2 _ rfl
        have q3 := blk_cell hb4 3 _ rfl
        have q4 := blk_cell hb4 4 _ rfl
        have x0 := blk_cell HE.out.2.2 0 _ rfl
        have x1 := blk_cell HE.out.2.2 1 _ rfl
        have x2 := blk_cell HE.out.2.2 2 _ rfl
        have x3 := blk_cell HE.out.2.2 3 _ rfl
        have x4 := blk_cell HE.out.2.2 4 _ rfl
        have f0 := blk_frozen HE.out.2.2 0
        have f1 := blk_frozen HE.out.2.2 1
        have f2 := blk_frozen HE.out.2.2 2
        have f3 := blk_frozen HE.out.2.2 3
        have f4 := blk_frozen HE.out.2.2 4
        have HP : Hid (OwnV (set5 wr (B + 1) (.int .i64 (runP s l).1.cap) (.slice a4 n4 c4) (.slice a5 n5 c5) (.slice a7 n7 c7) (.int .i64 (runP s l).1.next)) w1.heap.size (.agg #[.int .i64 (runP s l).1.cap, .slice a4 n4 c4, .slice a5 n5 c5, .slice a7 n7 c7, .int .i64 (runP s l).1.next]) (runP s l).1) := (ov3.put HE.out.2.2).2
        clear ov3 hb4
        go_wp2_with fail
        have b5 := set5_blk HE.out.2.2 (.int .i64 (runP s l).1.cap) (.slice a4 n4 c4) (.slice a5 n5 c5) (.slice a7 n7 c7) (.int .i64 (runP s l).1.next)
        refine bodyPost_ret (results_state2 rfl _ _ rfl rfl rfl b5) rfl ?_
        rw [HZ.out.1, HZ.out.2]
        refine ⟨_, rfl, HP.out.mono up1.out.size, ?_⟩
        exact HE.out.2.1.grown (set5_grown _ _ _ _ _ _ _) HE.out.2.1.size (fun j hj => by injection hj with hj; rw [← hj, HS.out.2.2]; omega)
end Go.Proofs.YtnchjlimkgbfpaaGreatDoor

/- The page's example. -/
namespace Go.Proofs.YtnchjlimkgbfpaaGreatDoor
open Go.RowKit
set_option linter.unusedVariables false
set_option maxRecDepth 20000
set_option linter.unusedSimpArgs false

theorem Rws.taken {sz : Nat} {w : World} {a : Option Addr} {n c : Nat} {css : List (List Value)} (h : Rws sz w (.slice a n c) css) (k : Nat) (hk : k ≤ css.length) : Rws sz w (.slice a k c) (css.take k) := by
  obtain ⟨h1, a', c', e, h2, h3, h4, h5⟩ := h
  injection e with e1 e2 e3
  subst e1
  subst e3
  have hl : (css.take k).length = k := by rw [List.length_take]; omega
  refine ⟨fun cs hcs => h1 cs (List.mem_of_mem_take hcs), a, c, by rw [hl], by omega, h3, h4, ?_⟩
  intro hne
  obtain ⟨b, off, e, hc⟩ := h5 (by intro q; rw [q] at hne; simp at hne)
  refine ⟨b, off, e, fun j cs hj i u hi => hc j cs ?_ i u hi⟩
  rw [List.getElem?_take] at hj
  split at hj
  · exact hj
  · cases hj

theorem ActsW.taken {w : World} {a : Option Addr} {n c : Nat} {l : List Ac} (h : ActsW w (.slice a n c) l) (k : Nat) (hk : k ≤ l.length) : ActsW w (.slice a k c) (l.take k) := by
  obtain ⟨m, rfl, h2, h3⟩ := h
  rw [List.length_map] at hk
  refine ⟨m.take k, by rw [List.map_take], ?_, fun y hy => h3 y (List.mem_of_mem_take hy)⟩
  rw [List.map_take]
  exact h2.taken k (by rw [List.length_map]; exact hk)

end Go.Proofs.YtnchjlimkgbfpaaGreatDoor

/- That the page's example is alive. -/
namespace Go.Proofs.YtnchjlimkgbfpaaGreatDoor
open Go.RowKit
set_option linter.unusedVariables false
set_option maxRecDepth 20000
set_option linter.unusedSimpArgs false

theorem OwnS.shape {w : World} {base B : Nat} {s : St} (h : OwnS w base B s) : ∃ af nf cf an nn cn as' ns cs', w.heap[B]? = some (.cells #[.int .i64 s.cap, .slice af nf cf, .slice an nn cn, .slice as' ns cs', .int .i64 s.next] 35) ∧ OwnV w base (.agg #[.int .i64 s.cap, .slice af nf cf, .slice an nn cn, .slice as' ns cs', .int .i64 s.next]) s := by
  obtain ⟨vf, vn, vs, hb, ov⟩ := h.take
  obtain ⟨a4, n4, c4, a5, n5, c5, a7, n7, c7, ev4⟩ := ov.shape
  simp at ev4
  obtain ⟨rfl, rfl, rfl⟩ := ev4
  exact ⟨_, _, _, _, _, _, _, _, _, hb, ov⟩

theorem OwnS.lt {w : World} {base B : Nat} {s : St} (h : OwnS w base B s) : B < w.heap.size := by
  obtain ⟨_, _, _, _, _, hb, _⟩ := h
  exact blk_lt hb

end Go.Proofs.YtnchjlimkgbfpaaGreatDoor

/- What a run and crashes keep, said plainly. -/
namespace Go.Proofs.YtnchjlimkgbfpaaGreatDoor
open Go.RowKit
set_option linter.unusedVariables false
set_option maxRecDepth 20000

theorem go_good : ∀ (l : List Ac) {s : St}, Good s → Good (goP s l).1 ∧ 0 ≤ (goP s l).2.1 ∧ (goP s l).2.1 ≤ (l.length : Int)
  | [], s, h => ⟨h, by simp [goP], by simp [goP]⟩
  | a :: l, s, h => by
    have hg := act_good h a
    unfold goP
    by_cases c : (actP s a).2 = 0
    · rw [if_pos c]
      have ih := go_good l hg
      refine ⟨ih.1, ?_, ?_⟩
      · show 0 ≤ (goP (actP s a).1 l).2.1 + 1
        omega
      · show (goP (actP s a).1 l).2.1 + 1 ≤ ((a :: l).length : Int)
        simp only [List.length_cons]
        omega
    · rw [if_neg c]
      exact ⟨hg, by simp, by simp only [List.length_cons]; omega⟩

theorem run_good {s : St} (h : Good s) (l : List Ac) : Good (runP s l).1 ∧ 0 ≤ (runP s l).2.1 ∧ (runP s l).2.1 ≤ (l.length : Int) := by
  unfold runP
  rw [good_check h]
  exact go_good l h

theorem StW.form {w : World} {v : Value} {s : St} (h : StW w v s) : ∃ af cf an cn as' cs', v = .agg #[.int .i64 s.cap, .slice af s.files.length cf, .slice an s.names.length cn, .slice as' s.safe.length cs', .int .i64 s.next] := by
  obtain ⟨vf, vn, vs, rfl, hf, hn, hs, _, _⟩ := h
  obtain ⟨af, cf, rfl, _, _⟩ := hf.len
  obtain ⟨an, cn, rfl, _, _⟩ := hn.len
  obtain ⟨as', cs', rfl, _, _⟩ := hs.len
  exact ⟨_, _, _, _, _, _, rfl⟩

end Go.Proofs.YtnchjlimkgbfpaaGreatDoor

/- The law's own makers of the program's states: names, octets. -/
namespace Go.Proofs.YtnchjlimkgbfpaaGreatDoor
open Go.RowKit
set_option linter.unusedVariables false
set_option maxRecDepth 20000
set_option linter.unusedSimpArgs false

end Go.Proofs.YtnchjlimkgbfpaaGreatDoor

/- The law's own comparisons, where both are the same. -/
namespace Go.Proofs.YtnchjlimkgbfpaaGreatDoor
open Go.RowKit
set_option linter.unusedVariables false
set_option maxRecDepth 20000
set_option linter.unusedSimpArgs false

/-- Texts as they are read. -/
def TextsW (w : World) (v : Value) (l : List (List Int)) : Prop := Rws 1 w v (l.map srow)
theorem TextsW.up {w w' : World} {v : Value} {l : List (List Int)} (h : TextsW w v l) (hb : Below w.heap.size w w') : TextsW w' v l := Rws.up h hb
theorem TextsW.len {w : World} {v : Value} {l : List (List Int)} (h : TextsW w v l) : ∃ a cap, v = .slice a l.length cap ∧ l.length ≤ cap ∧ cap ≤ maxLen := by
  obtain ⟨a, cap, e, h1, h2⟩ := Rws.len h
  rw [List.length_map] at e h1
  exact ⟨a, cap, e, h1, h2⟩
theorem TextsW.at {w : World} {v : Value} {l : List (List Int)} (h : TextsW w v l) (k : Nat) (hk : k < l.length) : ∃ b off cap, v = .slice (some ⟨b, off, none⟩) l.length cap ∧ w.cell? ⟨b, off + k, none⟩ = some (.string (strOfNums (l.getD k []))) := by
  obtain ⟨b, off, cap, e, _, _, hc⟩ := Rws.at h k (by rw [List.length_map]; exact hk)
  rw [List.length_map] at e
  have hr : (l.map srow).getD k [] = [.string (strOfNums (l.getD k []))] := by simp [List.getD, hk, srow]
  rw [hr] at hc
  have c0 := hc 0 _ rfl
  rw [Nat.mul_one, Nat.add_zero] at c0
  exact ⟨b, off, cap, e, c0⟩

end Go.Proofs.YtnchjlimkgbfpaaGreatDoor

/- What is read behind the names were synced, and behind a crash, said plainly. -/
namespace Go.Proofs.YtnchjlimkgbfpaaGreatDoor
open Go.RowKit
set_option linter.unusedVariables false
set_option maxRecDepth 20000

theorem rank_at {A : Type} {p : A → Bool} {l : List A} {i : Nat} (hi : i < l.length) (h1 : ∀ j (hj : j < l.length), j < i → p l[j] = true) (h2 : p l[i] = false) : rankOf p l = i := by
  have e : l = l.take i ++ l[i] :: l.drop (i + 1) := by
    rw [List.getElem_cons_drop, List.take_append_drop]
  unfold rankOf
  rw [e, takeWhile_all]
  · rw [List.takeWhile_cons_of_neg (by rw [h2]; decide), List.append_nil, List.length_take]
    omega
  · intro x hx
    obtain ⟨j, hj, rfl⟩ := List.getElem_of_mem hx
    rw [List.length_take] at hj
    rw [List.getElem_take]
    exact h1 j (by omega) (by omega)

theorem rankN_at {l : List (List Int × Int)} (h : l.Pairwise fun a b => lessL a.1 b.1 = true) {i : Nat} (hi : i < l.length) : rankN l (l[i]).1 = i := by
  rw [List.pairwise_iff_getElem] at h
  exact rank_at hi (fun j hj hji => h j i hj hi hji) (lessL_self _)

theorem rankF_at {l : List (Int × List Int × Int)} (h : l.Pairwise fun a b => a.1 < b.1) {i : Nat} (hi : i < l.length) : rankF l (l[i]).1 = i := by
  rw [List.pairwise_iff_getElem] at h
  exact rank_at hi (fun j hj hji => by simpa using h j i hj hi hji) (by simp)

/-- Where a name's file lies. -/
theorem named {s : St} (h : Good s) {i : Nat} (hi : i < s.names.length) : ∃ k, ∃ hk : k < s.files.length, (s.files[k]).1 = (s.names[i]).2 ∧ hasF s (s.names[i]).1 = true ∧ idxF s (s.names[i]).1 = k := by
  have hm := h.names.ids _ (List.getElem_mem hi)
  obtain ⟨f, hf, e⟩ := List.mem_map.1 hm
  obtain ⟨k, hk, rfl⟩ := List.getElem_of_mem hf
  have hr := rankN_at h.names.rise hi
  have hid : idN s (s.names[i]).1 = (s.names[i]).2 := by
    unfold idN
    rw [hr]
    simp [List.getD, hi]
  have hrk : rankF s.files (s.names[i]).2 = k := by
    rw [← e]
    exact rankF_at h.rise hk
  refine ⟨k, hk, e, ?_, ?_⟩
  · unfold hasF
    rw [hid]
    unfold thereN thereF
    rw [hr, hrk]
    simp [List.getD, hi, hk, e]
  · unfold idxF
    rw [hid, hrk]

end Go.Proofs.YtnchjlimkgbfpaaGreatDoor
