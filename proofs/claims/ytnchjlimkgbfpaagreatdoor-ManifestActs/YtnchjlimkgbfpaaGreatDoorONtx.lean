
import Derived.Test.YtnchjlimkgbfpaaGreatDoorZ27
namespace Go.Proofs.YtnchjlimkgbfpaaGreatDoor
open Go.RowKit
set_option linter.unusedVariables false
set_option linter.unusedSimpArgs false
set_option maxRecDepth 20000
def ActR (w : World) (v : Value) (l : List Ac) : Prop := ∃ m : List ARow, m.map (·.2) = l ∧ Rws 4 w v (m.map arow) ∧ ∀ y ∈ m, Octs w y.1 y.2.data
theorem ActO.red {w : World} {base : Nat} {v : Value} {l : List Ac} (h : ActO w base v l) : ActR w v l := by
  obtain ⟨m, h1, h2, h3⟩ := h
  exact ⟨m, h1, Rws.own h2, h3⟩
theorem ActR.up {w w' : World} {v : Value} {l : List Ac} (h : ActR w v l) (hb : Below w.heap.size w w') : ActR w' v l := by
  obtain ⟨m, h1, h2, h3⟩ := h
  exact ⟨m, h1, h2.up hb, fun y hy => (h3 y hy).up hb⟩
theorem ActR.nil (w : World) : ActR w (.slice none 0 0) [] := (ActO.nil w 0).red
def notP (id sq nx : Int) (dr : List Int) (ad : List Me) : List Ac × Int :=
  if idOk id then (if (encE sq nx dr ad).2 = 0 then (noteA (nameN 109 id).1 (edF sq nx dr ad), 0) else ([], (encE sq nx dr ad).2)) else ([], 4)
theorem note_made (w : World) (M F : List Int) (v : Value) (hv : Octs w v F) : ActR (w.alloc (.cells #[.int .i64 2, .string (strOfNums M), .string ⟨#[]⟩, v, .int .i64 3, .string (strOfNums M), .string ⟨#[]⟩, .slice none 0 0] 94)) (.slice (some ⟨w.heap.size, 0, none⟩) 2 2) (noteA M F) := by
  refine ⟨[(v, ⟨2, M, [], F⟩), (nilV, ⟨3, M, [], []⟩)], rfl, ?_, ?_⟩
  · exact Rws.made (sz := 4) w 94 [[.int .i64 2, .string (strOfNums M), .string ⟨#[]⟩, v], [.int .i64 3, .string (strOfNums M), .string ⟨#[]⟩, .slice none 0 0]] (by intro cs hcs; simp at hcs; rcases hcs with rfl | rfl <;> rfl) (by simp [maxLen])
  · intro y hy
    simp only [List.mem_cons, List.not_mem_nil, or_false] at hy
    rcases hy with rfl | rfl
    · exact hv.up (up_alloc _ _)
    · exact Octs.own (OwnB.nil _ 0) (by simp)
set_option maxHeartbeats 2000000 in
theorem noteX_any (id seq next : Int) (drop : List Int) (adds : List Me) (da aa : Option Addr) (dn dc an ac : Nat) (w : World) (hd : IntsR w (.slice da dn dc) drop) (ha : MetsR w (.slice aa an ac) adds) (he : EnvL w) :
    Calls Tryz.prog 12 #[.int .i64 id, .agg #[.slice da dn dc, .slice aa an ac, .int .i64 seq, .int .i64 next]] w fun e w' => ∃ a n c, e = .returned (.tuple #[.slice a n c, .int .i64 (notP id seq next drop adds).2]) ∧ Hid (ActR w' (.slice a n c) (notP id seq next drop adds).1) ∧ Hid (Below w.heap.size w w') := by
  have HD : Hid (IntsR w (.slice da dn dc) drop) := hd
  have HA : Hid (MetsR w (.slice aa an ac) adds) := ha
  have HE : Hid (EnvL w) := he
  have HPd : Hid (notP id seq next drop adds = if idOk id then (if (encE seq next drop adds).2 = 0 then (noteA (nameN 109 id).1 (edF seq next drop adds), 0) else ([], (encE seq next drop adds).2)) else ([], 4)) := rfl
  have HEd := hid (edP_oct seq next drop adds)
  have HEp : Hid (edP seq next drop adds = if (encE seq next drop adds).2 = 0 then (edF seq next drop adds, 0) else ([], (encE seq next drop adds).2)) := rfl
  obtain ⟨w0, hw0⟩ : ∃ w0, w0 = w.alloc (.cells #[.slice da dn dc, .slice aa an ac, .int .i64 seq, .int .i64 next] 42) := ⟨_, rfl⟩
  have HW0 : Hid (w.alloc (.cells #[.slice da dn dc, .slice aa an ac, .int .i64 seq, .int .i64 next] 42) = w0) := hid hw0.symm
  have U0 : Hid (Below w.heap.size w w0) := by rw [hw0]; exact up_alloc _ _
  have B0 : Hid (w0.heap[w.heap.size]? = some (.cells #[.slice da dn dc, .slice aa an ac, .int .i64 seq, .int .i64 next] 42)) := by rw [hw0]; exact blk_new _ _
  clear hw0 hd ha he
  by_cases hid2 : idOk id = true
  case neg =>
    have hif : idOk id = false := by simpa using hid2
    rw [if_neg hid2] at HPd
    have hne : nameN 109 id = ([], 4) := by unfold nameN; rw [hif]; rfl
    have HNa := hid (nameX 109 id { data := #[] } 4 (by rw [hne]; rfl) (by omega) w0 (HE.out.up U0.out).1)
    clear hid2 hif hne
    go_enter Tryz.func12, Tryz.ntmps12
    go_upto_region 1 with fail
    rw [HW0.out]
    clear HW0
    go_wp2_with fail
    refine HNa.out.mono ?_
    rintro e w1 ⟨rfl, b1⟩
    have U1 : Hid (Below w.heap.size w w1) := up_trans U0.out b1
    clear b1 HNa
    go_wp2_with fail
    go_ret2
    rw [HPd.out]
    exact ⟨_, _, _, rfl, ActR.nil _, U1⟩
  rw [if_pos hid2] at HPd
  obtain ⟨hn1, hn2, hn3⟩ := nameN_octO hid2
  rw [hn1] at HPd
  simp only at HPd
  obtain ⟨M, hM⟩ : ∃ M : List Int, M = 109 :: digs id.toNat := ⟨_, rfl⟩
  have HNa := hid (nameX 109 id (strOfNums M) 0 (by rw [hn1, hM]) (by omega) w0 (HE.out.up U0.out).1)
  rw [← hM] at HPd
  clear hM hn1 hn2 hn3 hid2
  have HNM : Hid (∀ (W : World) (F : List Int) (v : Value), Octs W v F → ActR (W.alloc (.cells #[.int .i64 2, .string (strOfNums M), .string ⟨#[]⟩, v, .int .i64 3, .string (strOfNums M), .string ⟨#[]⟩, .slice none 0 0] 94)) (.slice (some ⟨W.heap.size, 0, none⟩) 2 2) (noteA M F)) := fun W F v h => note_made W M F v h
  generalize strOfNums M = S at *
  go_enter Tryz.func12, Tryz.ntmps12
  go_upto_region 1 with fail
  rw [HW0.out]
  clear HW0
  go_wp2_with fail
  refine HNa.out.mono ?_
  rintro e w1 ⟨rfl, u1⟩
  have B1 := hid (blk_up B0.out u1)
  have x0 := blk_cell B1.out 0 _ rfl
  have x1 := blk_cell B1.out 1 _ rfl
  have x2 := blk_cell B1.out 2 _ rfl
  have x3 := blk_cell B1.out 3 _ rfl
  have U1 : Hid (Below w.heap.size w w1) := up_trans U0.out u1
  have HEo := hid (edOct_any seq next drop adds da aa dn dc an ac w1 (HD.out.up U1.out) (HA.out.up U1.out))
  clear HNa u1 B0
  by_cases c : (encE seq next drop adds).2 = 0
  · rw [if_pos c] at HPd HEp
    rw [HEp.out] at HEo HEd
    simp only at HEo HEd
    generalize edF seq next drop adds = F at *
    clear c
    go_wp2_with fail
    refine HEo.out.mono ?_
    rintro e w2 ⟨a2, n2, c2, rfl, O2, b2⟩
    have U2 : Hid (Below w.heap.size w w2) := up_trans U1.out b2.out
    have OC : Hid (Octs w2 (.slice a2 n2 c2) F) := Octs.own O2.out HEd.out
    clear O2 HEo x0 x1 x2 x3 B1 b2
    go_wp2_with fail
    go_ret2
    rw [HPd.out]
    exact ⟨_, _, _, rfl, HNM.out _ _ _ OC.out, up_al U2.out _⟩
  · rw [if_neg c] at HPd HEp
    rw [HEp.out] at HEo HEd
    simp only at HEo HEd
    have cb : ((encE seq next drop adds).2 == 0) = false := by simpa using c
    have cn : ((encE seq next drop adds).2 != 0) = true := by simpa using c
    generalize (encE seq next drop adds).2 = Y at *
    go_wp2_with fail
    refine HEo.out.mono ?_
    rintro e w2 ⟨a2, n2, c2, rfl, O2, b2⟩
    have U2 : Hid (Below w.heap.size w w2) := up_trans U1.out b2.out
    clear O2 HEo x0 x1 x2 x3 B1 b2
    go_wp2_with fail
    go_ret2
    rw [HPd.out]
    exact ⟨_, _, _, rfl, ActR.nil _, U2⟩
end Go.Proofs.YtnchjlimkgbfpaaGreatDoor
