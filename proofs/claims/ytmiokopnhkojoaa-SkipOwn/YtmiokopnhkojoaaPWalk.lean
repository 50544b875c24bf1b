/- The program's walk and All. -/
import Derived.Test.YtmiokopnhkojoaaPAll
namespace Go.Proofs.Ytmiokopnhkojoaa
open Go.RowKit
set_option linter.unusedVariables false
set_option linter.unusedSimpArgs false

theorem chain0 {s : Sk} (g : Good s) : ∀ (A R : List Nat), s.ord = A ++ R → ∀ w, chainOK s.h s.nx 0 R w → (R = [] ∧ w = 0) ∨ ∃ k R', R = k :: R' ∧ w = (k : Int) + 1 ∧ k < s.nodes.length ∧ 0 < s.h k ∧ chainOK s.h s.nx 0 R' (s.nx k 0) := by
  intro A R e w h
  cases R with
  | nil => exact .inl ⟨rfl, h⟩
  | cons k R' =>
    have hk : k < s.nodes.length := (g.mem k).1 (by rw [e]; simp)
    have hh : 0 < s.h k := by have := (g.high k hk).1; omega
    have := (chain_in hh).1 h
    exact .inr ⟨k, R', rfl, this.1, hk, hh, this.2⟩

theorem idx_mid (A : List Nat) (k : Nat) (R : List Nat) (h : (A ++ k :: R).Nodup) : (A ++ k :: R).idxOf k = A.length := by
  have hn : k ∉ A := fun hj => (List.nodup_append.1 h).2.2 k hj k (by simp) rfl
  rw [List.idxOf_append, if_neg hn]
  simp
def mW (o : List Nat) (num : Int) : Nat := if num = 0 then 0 else o.length - o.idxOf (num - 1).toNat
theorem mW_eq (A : List Nat) (k : Nat) (R : List Nat) (h : (A ++ k :: R).Nodup) : mW (A ++ k :: R) ((k : Int) + 1) = R.length + 1 := by
  unfold mW
  rw [if_neg (by omega), show ((k : Int) + 1 - 1).toNat = k by omega, idx_mid A k R h]
  simp only [List.length_append, List.length_cons]
  omega
theorem mW_next {s : Sk} (g : Good s) (A R : List Nat) (e : s.ord = A ++ R) (w : Int) (h : chainOK s.h s.nx 0 R w) : mW s.ord w = R.length := by
  rcases chain0 g A R e w h with ⟨rfl, rfl⟩ | ⟨k, R', rfl, rfl, _⟩
  · rfl
  · rw [e]
    exact mW_eq A k R' (by rw [← e]; exact Srt.nodup g.srt)
set_option maxHeartbeats 4000000 in
set_option maxRecDepth 100000 in
theorem walk_any (s : Sk) (es : List (En × Value)) (vN vH : Value) (T base : Nat) (w : World) (hV : ∀ w', Below base w w' → SkE w' vN vH s es) (hg : Good s) (hC : Coll w base T (.slice none 0 0) []) (hb : base ≤ w.heap.size) (hTb : base ≤ T) :
    Calls Try.prog 36 #[.agg #[vN, vH], .func (.func 37) #[.pointer (some ⟨T, 0, none⟩)] #[]] w fun e w' => ∃ a c, e = .returned (.tuple #[]) ∧ Hid (Coll w' base T (.slice a s.nodes.length c) s.all ∧ Below base w w') := by
  obtain ⟨⟨aN, cN, rfl⟩, ⟨aH, cH, rfl⟩⟩ := (hV w (Below.refl _ _)).form
  have HV : Hid (∀ w', Below base w w' → SkE w' (.slice aN s.nodes.length cN) (.slice aH s.head.length cH) s es) := hV
  have HG : Hid (Good s) := hg
  have HBB : Hid (base ≤ w.heap.size ∧ base ≤ T) := ⟨hb, hTb⟩
  have h8 : 0 < s.head.length := by have := hg.head; omega
  have h8' : (0 : Int) < (s.head.length : Int) := by omega
  have h63 : (s.nodes.length : Int) ≤ 9223372036854775807 := by have := hg.few; omega
  have hlow : ∀ {w' : World}, Below w.heap.size w w' → Below base w w' := fun q => ⟨q.os, q.tape, q.output, q.size, fun k hk => q.block k (by omega)⟩
  have HU0 : Hid (Below base w (w.alloc (.cells #[.slice aN s.nodes.length cN, .slice aH s.head.length cH] 30))) := hlow (up_alloc _ _)
  obtain ⟨b, off, cap, n, e, hn, hc⟩ := (HV.out _ HU0.out).head.at 0 h8
  simp only [Value.slice.injEq] at e
  obtain ⟨rfl, _, rfl⟩ := e
  rw [Nat.add_zero] at hc
  have HN : Hid (chainOK s.h s.nx 0 s.ord n) := by
    have := HG.out.link 0 (by omega)
    have e : s.hd 0 = n := by simp [Sk.hd, List.getD, hn]
    rw [e] at this
    exact this
  have HST : Hid (Coll (w.alloc (.cells #[.slice aN s.nodes.length cN, .slice (some ⟨b, off, none⟩) s.head.length cH] 30)) base T (.slice none 0 0) [] ∧ (w.alloc (.cells #[.slice aN s.nodes.length cN, .slice (some ⟨b, off, none⟩) s.head.length cH] 30)).heap[w.heap.size]? = some (.cells #[.slice aN s.nodes.length cN, .slice (some ⟨b, off, none⟩) s.head.length cH] 30) ∧ w.heap.size ≠ T) := by
    refine ⟨hC.up (up_alloc _ _), blk_new _ _, ?_⟩
    have := blk_lt hC.1
    omega
  clear hV hg hC hb hTb hlow h8 hn
  go_enter Try.func36, Try.ntmps36
  go_wp2_with fail
  go_loopw [4] (fun q wr => ∃ (A R : List Nat) (num : Int) (a : Option Addr) (c : Nat), q = .int .i64 num ∧ Hid (s.ord = A ++ R ∧ chainOK s.h s.nx 0 R num ∧ Coll wr base T (.slice a (A.map fun k => (s.at' k).1).length c) (A.map fun k => (s.at' k).1) ∧ Below base w wr ∧ wr.heap[w.heap.size]? = some (.cells #[.slice aN s.nodes.length cN, .slice (some ⟨b, off, none⟩) s.head.length cH] 30))) (fun q _ => mW s.ord (intOf q))
  case atStart => exact ⟨[], s.ord, n, none, 0, rfl, rfl, HN.out, HST.out.1, HU0.out, HST.out.2.1⟩
  case round =>
    have HNT : Hid (w.heap.size ≠ T) := HST.out.2.2
    clear HST HN HU0 hc
    obtain ⟨A, R, num, a, c, rfl, HO⟩ := hrel
    have p0 : wr.cell? ⟨w.heap.size, 0, none⟩ = some (.slice aN s.nodes.length cN) := blk_cell HO.out.2.2.2.2 0 _ rfl
    rcases chain0 HG.out A R HO.out.1 num HO.out.2.1 with ⟨hR, rfl⟩ | ⟨k, R', hR, rfl, hk, hh, hch⟩
    · have HEND : Hid (∃ a c, Coll wr base T (.slice a s.nodes.length c) s.all ∧ Below base w wr) := by
        have e : s.ord = A := by rw [HO.out.1, hR, List.append_nil]
        have e2 : (A.map fun k => (s.at' k).1) = s.all := by unfold Sk.all; rw [e]
        have e3 : s.all.length = s.nodes.length := by
          unfold Sk.all Sk.ord
          rw [List.length_map, orderF_len]
        refine ⟨a, c, ?_, HO.out.2.2.2.1⟩
        have := HO.out.2.2.1
        rw [e2, e3] at this
        exact this
      clear hR HO
      go_wp2_with fail
      obtain ⟨a2, c2, hz⟩ := HEND.out
      go_end0
      exact ⟨a2, c2, rfl, hz⟩
    · have hk' : (k : Int) < (s.nodes.length : Int) := by omega
      have hwr1 : IntKind.i64.wrap (k : Int) = (k : Int) := by simp [IntKind.wrap, IntKind.bits, IntKind.signed]; omega
      have hwr2 : IntKind.i64.wrap ((k : Int) + 1 - 1) = (k : Int) := by rw [Int.add_sub_cancel]; exact hwr1
      have hz1 : ((k : Int) + 1 == 0) = false := by simp; omega
      have hz2 : ((k : Int) + 1 != 0) = true := by simp; omega
      have hk0 : 0 ≤ (k : Int) := by omega
      have hk1 : (k : Int) + 1 - 1 = (k : Int) := by omega
      obtain ⟨b1, off1, an, cn, rfl, _, hw, y0, y1, y2, y3, y4⟩ := (HV.out _ HO.out.2.2.2.1).node k hk
      have HTK := take_any (A.map fun k => (s.at' k).1) (s.at' k).1 a c T base wr HO.out.2.2.1 (by
        have e := congrArg List.length HO.out.1
        unfold Sk.ord at e
        rw [orderF_len, List.length_append] at e
        have := HG.out.few
        rw [List.length_map]
        omega) (Nat.le_trans HBB.out.1 HO.out.2.2.2.1.size)
      unfold enV at HTK
      have HCH : Hid (R = k :: R' ∧ chainOK s.h s.nx 0 R' (s.nx k 0) ∧ 0 < s.h k) := ⟨hR, hch, hh⟩
      have HY : Hid (∀ w', Below base w w' → w'.cell? ⟨b1, off1 + k * 5 + 4, none⟩ = some (.slice an (s.h k) cn) ∧ ∃ bn on' cn', (.slice an (s.h k) cn : Value) = .slice (some ⟨bn, on', none⟩) (s.h k) cn' ∧ w'.cell? ⟨bn, on', none⟩ = some (.int .i64 (s.nx k 0))) := by
        intro w' hb
        obtain ⟨b2, off2, an2, cn2, e2, _, hw2, _, _, _, _, z4⟩ := (HV.out _ hb).node k hk
        simp only [Option.some.injEq, Addr.mk.injEq] at e2
        obtain ⟨rfl, rfl, _⟩ := e2
        rw [hw] at hw2
        simp only [Value.slice.injEq] at hw2
        obtain ⟨rfl, _, rfl⟩ := hw2
        refine ⟨z4, ?_⟩
        obtain ⟨bn, on', cn', nn, e3, hnn, hc3⟩ := ((HV.out _ hb).way (k + 1) (by omega)).at 0 hh
        rw [hw] at e3
        refine ⟨bn, on', cn', e3, ?_⟩
        have : s.nx k 0 = nn := by simp [Sk.nx, List.getD]; rw [show (s.at' k).2[0]? = some nn from hnn]; rfl
        rw [this]
        simpa using hc3
      have HAT : Hid ((A ++ [k]).map (fun k => (s.at' k).1) = A.map (fun k => (s.at' k).1) ++ [(s.at' k).1]) := by simp [Hid]
      generalize hy : (s.at' k).1 = y at *
      clear hw hR hch y4 hy
      go_wp2_with fail
      refine HTK.mono ?_
      rintro e w2 ⟨a2, c2, rfl, HZ⟩
      clear HTK y0 y1 y2 y3 p0
      have HB2 : Hid (Below base w w2) := HO.out.2.2.2.1.trans (HZ.out.2.1 base (Nat.le_refl _) HBB.out.2 (Nat.le_trans HBB.out.1 HO.out.2.2.2.1.size))
      have HX2 : Hid (w2.heap[w.heap.size]? = some (.cells #[.slice (some ⟨b1, off1, none⟩) s.nodes.length cN, .slice (some ⟨b, off, none⟩) s.head.length cH] 30)) := HZ.out.2.2 _ _ _ HNT.out (by decide) HO.out.2.2.2.2
      have p0 : w2.cell? ⟨w.heap.size, 0, none⟩ = some (.slice (some ⟨b1, off1, none⟩) s.nodes.length cN) := blk_cell HX2.out 0 _ rfl
      obtain ⟨y4, bn, on', cn', e3, c5⟩ := HY.out _ HB2.out
      simp only [Value.slice.injEq] at e3
      obtain ⟨rfl, _, rfl⟩ := e3
      have hh' : (0 : Int) < (s.h k : Int) := by have := HCH.out.2.2; omega
      have HNEW : Hid (s.ord = (A ++ [k]) ++ R' ∧ chainOK s.h s.nx 0 R' (s.nx k 0) ∧ Coll w2 base T (.slice a2 ((A ++ [k]).map fun k => (s.at' k).1).length c2) ((A ++ [k]).map fun k => (s.at' k).1) ∧ Below base w w2 ∧ w2.heap[w.heap.size]? = some (.cells #[.slice (some ⟨b1, off1, none⟩) s.nodes.length cN, .slice (some ⟨b, off, none⟩) s.head.length cH] 30)) := by
        refine ⟨by rw [HO.out.1, HCH.out.1]; simp, HCH.out.2.1, ?_, HB2.out, HX2.out⟩
        rw [HAT.out]
        have := HZ.out.1
        rw [List.length_append]
        exact this
      have HM : Hid (mW s.ord (s.nx k 0) < mW s.ord ((k : Int) + 1)) := by
        have m1 := mW_next HG.out A R HO.out.1 ((k : Int) + 1) HO.out.2.1
        have m2 := mW_next HG.out (A ++ [k]) R' HNEW.out.1 _ HCH.out.2.1
        unfold Hid
        rw [m1, m2, HCH.out.1]
        simp
      generalize hLL : s.h k = LL at *
      generalize hNN : s.nx k 0 = NN at *
      go_wp2_with fail
      exact ⟨⟨A ++ [k], R', NN, a2, c2, rfl, HNEW⟩, HM.out⟩
end Go.Proofs.Ytmiokopnhkojoaa
