/- The program's Encode and Decode. -/
import Derived.Test.YtpjmieiajhhbaaaDoorGY
import Derived.Test.YtpjmieiajhhbaaaDoorGV
import Derived.Laws.AppendOwn
import Derived.Test.YtpjmieiajhhbaaaDoorQChk
import Derived.Test.YtpjmieiajhhbaaaDoorQTurn

/- The program's reader: what it refuses, a number, a text. -/
namespace Go.Proofs.YtpjmieiajhhbaaaDoor
open Go.RowKit
set_option linter.unusedVariables false
set_option linter.unusedSimpArgs false

/-- A text's octets in a new block. -/
theorem octs_conv2 (w : World) (t : List Int) (ht : ∀ x ∈ t, 0 ≤ x ∧ x ≤ 255) (hm : t.length ≤ 140737488355328) :
    ∃ cap w1, (convert 9 64 (.string (strOfNums t))).run Tryd.prog w = .ok (.slice (some ⟨w.heap.size, 0, none⟩) t.length cap) w1 ∧ t.length ≤ cap ∧ cap ≤ maxLen ∧ Below w.heap.size w w1 ∧ w1.heap.size = w.heap.size + 1 ∧ Octs w1 (.slice (some ⟨w.heap.size, 0, none⟩) t.length cap) t := by
  have kb := run_bytes_of_string (P := Tryd.prog) w 9 64 5 (strOfNums t) Tryd.underlying9 Tryd.underlying64 Tryd.underlying5
  rw [strOfNums_size] at kb
  have hge := grownCap_ge w t.length 0 5
  have hle := grownCap_le_maxLen w t.length 0 5 (by unfold maxLen; omega)
  generalize grownCap w t.length 0 5 = cap at *
  refine ⟨cap, _, kb, hge, hle, up_al (up_drewN w 1) _, by simp, ht, ?_⟩
  have cells : ∀ i, i < t.length → ((w.drew.alloc (.cells (bytesRow (strOfNums t) cap) 5 ((bytesRow (strOfNums t) cap).size, (bytesRow (strOfNums t) cap).size + 1)))).cell? ⟨w.heap.size, i, none⟩ = some (.int .u8 (t.getD i 0)) := by
    intro i hi
    have := World.cell?_alloc_mark w.drew (bytesRow (strOfNums t) cap) 5 ((bytesRow (strOfNums t) cap).size, (bytesRow (strOfNums t) cap).size + 1) i
    refine this.trans ?_
    have hsi : i < (strOfNums t).size := by rw [strOfNums_size]; exact hi
    refine (bytesRow_at (strOfNums t) cap i hsi).trans ?_
    have e := str_at t ht i hsi
    exact congrArg (fun z => some (Value.int .u8 z)) e
  by_cases h0 : t = []
  · exact .inl ⟨h0, _, cap, by rw [h0]; rfl, fun h => by cases h⟩
  · refine .inr ⟨h0, w.heap.size, 0, cap, rfl, hge, hle, fun j x hj => ?_⟩
    have hjl : j < t.length := by
      by_cases q : j < t.length
      · exact q
      · rw [List.getElem?_eq_none (by omega)] at hj
        cases hj
    have := cells j hjl
    rw [List.getD_eq_getElem?_getD, hj] at this
    simpa using this
/-- The reader's box: what is left, and the first error. -/
structure RQp (w0 w : World) (N : Nat) (l : List Int) (a : Option Addr) (c : Nat) (y : Int) : Prop where
  up : Below w0.heap.size w0 w
  n : w0.heap.size ≤ N
  blk : w.heap[N]? = some (.cells #[.slice a l.length c, .int .i64 y] 73)
  octs : Octs w0 (.slice a l.length c) l
  xl : l.length ≤ 140737488355328
  form : (a = none ∧ c = 0 ∧ l = []) ∨ (∃ b off, a = some ⟨b, off, none⟩ ∧ l.length ≤ c ∧ c ≤ maxLen)
theorem RQp.upw {w0 w w' : World} {N : Nat} {l : List Int} {a : Option Addr} {c : Nat} {y : Int} (h : RQp w0 w N l a c y) (hb : Below w.heap.size w w') : RQp w0 w' N l a c y :=
  ⟨up_trans h.up hb, h.n, blk_up h.blk hb, h.octs, h.xl, h.form⟩
theorem RQp.far {w0 w w' : World} {N : Nat} {l : List Int} {a : Option Addr} {c : Nat} {y : Int} {r : Option Nat} (h : RQp w0 w N l a c y) (hg : w.grownBy w' r) (hr : ∀ g, r = some g → w0.heap.size ≤ g ∧ g ≠ N) : RQp w0 w' N l a c y :=
  ⟨h.up.grown hg h.up.size (fun g e => (hr g e).1), h.n, blk_grown h.blk hg (fun e => (hr N e.symm).2 rfl), h.octs, h.xl, h.form⟩
theorem RQp.setErr {w0 w : World} {N : Nat} {l : List Int} {a : Option Addr} {c : Nat} {y : Int} (h : RQp w0 w N l a c y) (z : Int) : RQp w0 (w.setCell ⟨N, 1, none⟩ (.int .i64 z)) N l a c z :=
  ⟨h.up.grown (grown_set _ _ _) h.up.size (fun g e => by have := h.n; simp at e; omega), h.n, blk_set h.blk 1 _, h.octs, h.xl, h.form⟩
theorem octs_none (w : World) (a : Option Addr) (c : Nat) (h : a = none → c = 0) : Octs w (.slice a 0 c) [] := ⟨by simp, .inl ⟨rfl, _, _, rfl, h⟩⟩
theorem RQp.setNil {w0 w : World} {N : Nat} {l : List Int} {a : Option Addr} {c : Nat} {y : Int} (h : RQp w0 w N l a c y) : RQp w0 (w.setCell ⟨N, 0, none⟩ (.slice none 0 0)) N [] none 0 y :=
  ⟨h.up.grown (grown_set _ _ _) h.up.size (fun g e => by have := h.n; simp at e; omega), h.n, blk_set h.blk 0 _, octs_none _ _ _ (fun _ => rfl), Nat.zero_le _, .inl ⟨rfl, rfl, rfl⟩⟩
theorem RQp.setLeft {w0 w : World} {N : Nat} {l : List Int} {b off : Nat} {c : Nat} {y : Int} (h : RQp w0 w N l (some ⟨b, off, none⟩) c y) (j : Nat) (hj : j ≤ l.length) (hc : c ≠ j) : RQp w0 (w.setCell ⟨N, 0, none⟩ (.slice (some ⟨b, off + j, none⟩) (l.length - j) (c - j))) N (l.drop j) (some ⟨b, off + j, none⟩) (c - j) y := by
  have hl : (l.drop j).length = l.length - j := List.length_drop ..
  rcases h.form with ⟨q, _⟩ | ⟨b', off', e, h1, h2⟩
  · cases q
  refine ⟨h.up.grown (grown_set _ _ _) h.up.size (fun g e => by have := h.n; simp at e; omega), h.n, ?_, ?_, ?_, .inr ⟨b, off + j, rfl, by omega, by omega⟩⟩
  · rw [hl]
    exact blk_set h.blk 0 _
  · rw [hl]
    exact h.octs.back rfl j hj h1
  · rw [hl]
    have := h.xl
    omega
theorem RQp.setEnd {w0 w : World} {N : Nat} {l : List Int} {b off : Nat} {c : Nat} {y : Int} (h : RQp w0 w N l (some ⟨b, off, none⟩) c y) (j : Nat) (hj : j ≤ l.length) (hc : c = j) : RQp w0 (w.setCell ⟨N, 0, none⟩ (.slice (some ⟨b, off, none⟩) 0 0)) N (l.drop j) (some ⟨b, off, none⟩) 0 y := by
  rcases h.form with ⟨q, _⟩ | ⟨b', off', e, h1, h2⟩
  · cases q
  have hl : l.drop j = [] := List.drop_of_length_le (by omega)
  rw [hl]
  exact ⟨h.up.grown (grown_set _ _ _) h.up.size (fun g e => by have := h.n; simp at e; omega), h.n, blk_set h.blk 0 _, octs_none _ _ _ (fun q => by cases q), Nat.zero_le _, .inr ⟨b, off, rfl, Nat.le_refl _, Nat.zero_le _⟩⟩
set_option maxHeartbeats 1000000 in
theorem refuse_any (N : Nat) (l : List Int) (a : Option Addr) (c : Nat) (y why : Int) (w0 w : World) (h : RQp w0 w N l a c y) :
    Calls Tryd.prog 60 #[.pointer (some ⟨N, 0, none⟩), .int .i64 why] w fun e w' => e = .returned (.tuple #[]) ∧ Hid (RQp w0 w' N [] none 0 (if y = 0 then why else y)) ∧ Hid (w.grownBy w' (some N)) := by
  have p0 : w.cell? ⟨N, 0, none⟩ = some (.slice a l.length c) := blk_cell h.blk 0 _ rfl
  have p1 : w.cell? ⟨N, 1, none⟩ = some (.int .i64 y) := blk_cell h.blk 1 _ rfl
  have z0 := blk_frozen h.blk 0
  have z1 := blk_frozen h.blk 1
  by_cases hy : y = 0
  · subst hy
    have HS := hid (h.setErr why).setNil
    have HG := hid (grown_trans (grown_set w ⟨N, 1, none⟩ (.int .i64 why)) (grown_set _ ⟨N, 0, none⟩ (.slice none 0 0)))
    have q0 := blk_cell (h.setErr why).blk 0 _ rfl
    have q1 := blk_frozen (h.setErr why).blk 0
    clear h
    rw [if_pos rfl]
    go_enter Tryd.func60, Tryd.ntmps60
    go_wp2
    go_end0
    exact ⟨rfl, HS.out, HG.out⟩
  · have y1 : (y == 0) = false := by simpa using hy
    have HS := hid h.setNil
    have HG := hid (grown_set w ⟨N, 0, none⟩ (.slice none 0 0))
    rw [if_neg hy]
    clear h hy
    go_enter Tryd.func60, Tryd.ntmps60
    go_wp2
    go_end0
    exact ⟨rfl, HS.out, HG.out⟩
/-- The program's reader says what the document's says, but for the number of an error. -/
def RR (w0 w : World) (N : Nat) (s : List Int × Int) : Prop := ∃ l a c y, RQp w0 w N l a c y ∧ ((s.2 = 0 ∧ y = 0 ∧ l = s.1) ∨ (s.2 ≠ 0 ∧ y ≠ 0 ∧ l = [] ∧ a = none ∧ c = 0))
theorem RR.upw {w0 w w' : World} {N : Nat} {s : List Int × Int} (h : RR w0 w N s) (hb : Below w.heap.size w w') : RR w0 w' N s := by
  obtain ⟨l, a, c, y, hq, H⟩ := h
  exact ⟨l, a, c, y, hq.upw hb, H⟩
theorem RR.far {w0 w w' : World} {N : Nat} {s : List Int × Int} {r : Option Nat} (h : RR w0 w N s) (hg : w.grownBy w' r) (hr : ∀ g, r = some g → w0.heap.size ≤ g ∧ g ≠ N) : RR w0 w' N s := by
  obtain ⟨l, a, c, y, hq, H⟩ := h
  exact ⟨l, a, c, y, hq.far hg hr, H⟩
theorem RR.up {w0 w : World} {N : Nat} {s : List Int × Int} (h : RR w0 w N s) : Below w0.heap.size w0 w := by
  obtain ⟨l, a, c, y, hq, H⟩ := h
  exact hq.up
theorem RR.refused {w0 w : World} {N : Nat} {y : Int} (h : RQp w0 w N [] none 0 y) (hy : y ≠ 0) {s : List Int × Int} (hs : s.2 ≠ 0) : RR w0 w N s := ⟨[], none, 0, y, h, .inr ⟨hs, hy, rfl, rfl, rfl⟩⟩
/-- A number that can't be read. -/
theorem number_bad (N : Nat) (l : List Int) (a : Option Addr) (c : Nat) (y z : Int) (w0 w : World) (h : RQp w0 w N l a c y) (hg : getRet l = .tuple #[.int .u64 0, .int .i64 0, .int .i64 z]) (hz : z ≠ 0) :
    Calls Tryd.prog 58 #[.pointer (some ⟨N, 0, none⟩)] w fun e w' => e = .returned (.int .i64 0) ∧ Hid (RQp w0 w' N [] none 0 (if y = 0 then z else y)) ∧ Hid (w.grownBy w' (some N)) := by
  have HGQ := hid (get_any l (.slice a l.length c) w (h.octs.up h.up))
  rw [hg] at HGQ
  have HH := hid h
  have p0 : w.cell? ⟨N, 0, none⟩ = some (.slice a l.length c) := blk_cell h.blk 0 _ rfl
  have y1 : (z == 0) = false := by simpa using hz
  have y2 : (z != 0) = true := by simpa using hz
  obtain ⟨Y, hY⟩ : ∃ Y, Y = (if y = 0 then z else y) := ⟨_, rfl⟩
  rw [← hY]
  have HF : Hid (∀ w1, RQp w0 w1 N l a c y → Calls Tryd.prog 60 #[.pointer (some ⟨N, 0, none⟩), .int .i64 z] w1 fun e w' => e = .returned (.tuple #[]) ∧ Hid (RQp w0 w' N [] none 0 Y) ∧ Hid (w1.grownBy w' (some N))) := fun w1 h1 => by
    have q := refuse_any N l a c y z w0 w1 h1
    rw [← hY] at q
    exact q
  clear h hg hz hY
  go_enter Tryd.func58, Tryd.ntmps58
  go_wp2_with fail
  refine HGQ.out.mono ?_
  rintro e w1 ⟨rfl, d, rfl⟩
  have H1 := hid (HH.out.upw (up_drewN w d))
  have G1 := hid (grown_up (up_drewN w d) (some N))
  clear p0 HH HGQ
  generalize World.drewN w d = w1 at *
  go_wp2_with fail
  refine (HF.out w1 H1.out).mono ?_
  rintro e w2 ⟨rfl, H2, G2⟩
  go_wp2_with fail
  go_ret
  exact ⟨rfl, H2.out, grown_trans G1.out G2.out⟩
/-- A number that is too high. -/
theorem number_big (N : Nat) (l : List Int) (a : Option Addr) (c : Nat) (n : Int) (j : Nat) (w0 w : World) (h : RQp w0 w N l a c 0) (hg : getRet l = .tuple #[.int .u64 n, .int .i64 (j : Int), .int .i64 0]) (hn : 1099511627776 < n) :
    Calls Tryd.prog 58 #[.pointer (some ⟨N, 0, none⟩)] w fun e w' => e = .returned (.int .i64 0) ∧ Hid (RQp w0 w' N [] none 0 4) ∧ Hid (w.grownBy w' (some N)) := by
  have HGQ := hid (get_any l (.slice a l.length c) w (h.octs.up h.up))
  rw [hg] at HGQ
  have HH := hid h
  have p0 : w.cell? ⟨N, 0, none⟩ = some (.slice a l.length c) := blk_cell h.blk 0 _ rfl
  clear h hg
  go_enter Tryd.func58, Tryd.ntmps58
  go_wp2_with fail
  refine HGQ.out.mono ?_
  rintro e w1 ⟨rfl, d, rfl⟩
  have H1 := hid (HH.out.upw (up_drewN w d))
  have G1 := hid (grown_up (up_drewN w d) (some N))
  clear p0 HH HGQ
  generalize World.drewN w d = w1 at *
  go_wp2_with fail
  refine (refuse_any N l a c 0 4 w0 w1 H1.out).mono ?_
  rintro e w2 ⟨rfl, H2, G2⟩
  rw [if_pos rfl] at H2
  go_wp2_with fail
  go_ret
  exact ⟨rfl, H2.out, grown_trans G1.out G2.out⟩
/-- A number. -/
theorem number_good (N : Nat) (l : List Int) (a : Option Addr) (c : Nat) (n : Int) (j : Nat) (w0 w : World) (h : RQp w0 w N l a c 0) (hg : getRet l = .tuple #[.int .u64 n, .int .i64 (j : Int), .int .i64 0]) (hj : 1 ≤ j ∧ j ≤ l.length) (hn : ¬ 1099511627776 < n) (hn0 : 0 ≤ n) :
    Calls Tryd.prog 58 #[.pointer (some ⟨N, 0, none⟩)] w fun e w' => e = .returned (.int .i64 n) ∧ Hid (∃ a' c', RQp w0 w' N (l.drop j) a' c' 0) ∧ Hid (w.grownBy w' (some N)) := by
  have HGQ := hid (get_any l (.slice a l.length c) w (h.octs.up h.up))
  rw [hg] at HGQ
  have HH := hid h
  have p0 : w.cell? ⟨N, 0, none⟩ = some (.slice a l.length c) := blk_cell h.blk 0 _ rfl
  have gw : IntKind.i64.wrap n = n := by simp [IntKind.wrap, IntKind.bits, IntKind.signed]; omega
  have hjl : (j : Int) ≤ (l.length : Int) := by omega
  have hj0 : (0 : Int) ≤ (j : Int) := by omega
  rcases h.form with ⟨rfl, rfl, rfl⟩ | ⟨b, off, rfl, hc, hm⟩
  · simp at hj; omega
  unfold maxLen at hm
  have hjc : (j : Int) ≤ (c : Int) := by omega
  have xl := h.xl
  clear h hg
  by_cases hcj : c = j
  · subst hcj
    go_enter Tryd.func58, Tryd.ntmps58
    go_wp2_with fail
    refine HGQ.out.mono ?_
    rintro e w1 ⟨rfl, d, rfl⟩
    have H1 := hid (HH.out.upw (up_drewN w d))
    have G1 := hid (grown_up (up_drewN w d) (some N))
    clear p0 HH HGQ
    generalize World.drewN w d = w1 at *
    have p0 := blk_cell H1.out.blk 0 _ rfl
    have z0 := blk_frozen H1.out.blk 0
    have H2 := hid (H1.out.setEnd c hj.2 rfl)
    have lj : l.length - c = 0 := by omega
    have G2 := hid (grown_set w1 ⟨N, 0, none⟩ (.slice (some ⟨b, off, none⟩) 0 0))
    go_wp2_with fail
    go_ret
    exact ⟨rfl, ⟨_, _, H2.out⟩, grown_trans G1.out G2.out⟩
  · go_enter Tryd.func58, Tryd.ntmps58
    go_wp2_with fail
    refine HGQ.out.mono ?_
    rintro e w1 ⟨rfl, d, rfl⟩
    have H1 := hid (HH.out.upw (up_drewN w d))
    have G1 := hid (grown_up (up_drewN w d) (some N))
    clear p0 HH HGQ
    generalize World.drewN w d = w1 at *
    have p0 := blk_cell H1.out.blk 0 _ rfl
    have z0 := blk_frozen H1.out.blk 0
    have H2 := hid (H1.out.setLeft j hj.2 hcj)
    have G2 := hid (grown_set w1 ⟨N, 0, none⟩ (.slice (some ⟨b, off + j, none⟩) (l.length - j) (c - j)))
    go_wp2_with fail
    go_ret
    exact ⟨rfl, ⟨_, _, H2.out⟩, grown_trans G1.out G2.out⟩
end Go.Proofs.YtpjmieiajhhbaaaDoor

/- The program's reader: a number and a text, in whatever state. -/
namespace Go.Proofs.YtpjmieiajhhbaaaDoor
open Go.RowKit
set_option linter.unusedVariables false
set_option linter.unusedSimpArgs false

theorem num_two {l : List Int} (hx : ∀ x ∈ l, 0 ≤ x ∧ x ≤ 255) : (∃ z, z ≠ 0 ∧ numG 1099511627776 4 l = .error z ∧ ∃ z', z' ≠ 0 ∧ numG 256 5 l = .error z') ∨
    (∃ n r, numG 1099511627776 4 l = .ok (n, r) ∧ 0 ≤ n ∧ n ≤ 1099511627776 ∧ ((256 < n ∧ numG 256 5 l = .error 5) ∨ (n ≤ 256 ∧ numG 256 5 l = .ok (n, r)))) := by
  rcases get_says l hx with hg | hg | ⟨n, j, hg, n0, n1, j1, jl, ho, j9⟩
  · refine .inl ⟨8, by decide, ?_, 8, by decide, ?_⟩ <;> (unfold numG; rw [getRet_inj hg]; rfl)
  · refine .inl ⟨4, by decide, ?_, 4, by decide, ?_⟩ <;> (unfold numG; rw [getRet_inj hg]; rfl)
  · have q := getRet_inj hg
    by_cases c1 : 1099511627776 < n
    · refine .inl ⟨4, by decide, ?_, 5, by decide, ?_⟩
      · unfold numG; rw [q]; simp only [if_true]; rw [if_pos c1]
      · unfold numG; rw [q]; simp only [if_true]; rw [if_pos (by omega)]
    · refine .inr ⟨n, l.drop j, ?_, n0, by omega, ?_⟩
      · unfold numG; rw [q]; simp only [if_true]; rw [if_neg c1]; rfl
      · by_cases c2 : 256 < n
        · refine .inl ⟨c2, ?_⟩
          unfold numG; rw [q]; simp only [if_true]; rw [if_pos c2]
        · refine .inr ⟨by omega, ?_⟩
          unfold numG; rw [q]; simp only [if_true]; rw [if_neg c2]; rfl
/-- A number, in whatever state. -/
theorem readNum_any (N : Nat) (s : List Int × Int) (w0 w : World) (h : RR w0 w N s) :
    Calls Tryd.prog 58 #[.pointer (some ⟨N, 0, none⟩)] w fun e w' => e = .returned (.int .i64 (numS 1099511627776 4 s).1) ∧ Hid (RR w0 w' N (numS 1099511627776 4 s).2) ∧ Hid (w.grownBy w' (some N)) := by
  obtain ⟨l, a, c, y, hq, H⟩ := h
  rcases H with ⟨e1, rfl, rfl⟩ | ⟨e1, hy, rfl, rfl, rfl⟩
  · obtain ⟨l, y⟩ := s
    dsimp only at e1 hq
    subst e1
    rcases get_says l hq.octs.1 with hg | hg | ⟨n, j, hg, n0, n1, j1, jl, ho, j9⟩
    · refine (number_bad N l a c 0 8 w0 w hq hg (by decide)).mono ?_
      rintro e w' ⟨rfl, h1, h2⟩
      have E : numS 1099511627776 4 (l, 0) = (0, (l, 8)) := by
        unfold numS numG
        rw [getRet_inj hg]
        rfl
      rw [E]
      exact ⟨rfl, RR.refused (by simpa using h1.out) (by decide) (by show (8 : Int) ≠ 0; decide), h2⟩
    · refine (number_bad N l a c 0 4 w0 w hq hg (by decide)).mono ?_
      rintro e w' ⟨rfl, h1, h2⟩
      have E : numS 1099511627776 4 (l, 0) = (0, (l, 4)) := by
        unfold numS numG
        rw [getRet_inj hg]
        rfl
      rw [E]
      exact ⟨rfl, RR.refused (by simpa using h1.out) (by decide) (by show (4 : Int) ≠ 0; decide), h2⟩
    · have q := getRet_inj hg
      by_cases c1 : 1099511627776 < n
      · refine (number_big N l a c n j w0 w hq hg c1).mono ?_
        rintro e w' ⟨rfl, h1, h2⟩
        have E : numS 1099511627776 4 (l, 0) = (0, (l, 4)) := by
          unfold numS numG
          rw [q]
          simp only [if_true]
          rw [if_pos c1]
        rw [E]
        exact ⟨rfl, RR.refused h1.out (by decide) (by show (4 : Int) ≠ 0; decide), h2⟩
      · refine (number_good N l a c n j w0 w hq hg ⟨j1, jl⟩ c1 n0).mono ?_
        rintro e w' ⟨rfl, h1, h2⟩
        obtain ⟨a', c', h1⟩ := h1.out
        have E : numS 1099511627776 4 (l, 0) = (n, (l.drop j, 0)) := by
          unfold numS numG
          rw [q]
          simp only [if_true]
          rw [if_neg c1]
          rfl
        rw [E]
        exact ⟨rfl, ⟨_, _, _, _, h1, .inl ⟨rfl, rfl, rfl⟩⟩, h2⟩
  · have hg : getRet [] = .tuple #[.int .u64 0, .int .i64 0, .int .i64 8] := rfl
    refine (number_bad N [] none 0 y 8 w0 w hq hg (by decide)).mono ?_
    rintro e w' ⟨rfl, h1, h2⟩
    rw [numS_stay e1]
    rw [if_neg hy] at h1
    exact ⟨rfl, RR.refused h1.out hy e1, h2⟩
/-- Nothing can be read any more. -/
theorem text_none (N : Nat) (w0 w : World) (HN : Calls Tryd.prog 58 #[.pointer (some ⟨N, 0, none⟩)] w fun e w' => e = .returned (.int .i64 0) ∧ Hid (∃ y, y ≠ 0 ∧ RQp w0 w' N [] none 0 y) ∧ Hid (w.grownBy w' (some N))) :
    Calls Tryd.prog 59 #[.pointer (some ⟨N, 0, none⟩)] w fun e w' => e = .returned (.string { data := #[] }) ∧ Hid (∃ y, y ≠ 0 ∧ RQp w0 w' N [] none 0 y) ∧ Hid (w.grownBy w' (some N)) := by
  have HN := hid HN
  go_enter Tryd.func59, Tryd.ntmps59
  go_wp2_with fail
  refine HN.out.mono ?_
  rintro e w1 ⟨rfl, H1, G1⟩
  clear HN
  obtain ⟨y, hy, hq⟩ := H1.out
  have p0 : w1.cell? ⟨N, 0, none⟩ = some (.slice none 0 0) := blk_cell hq.blk 0 _ rfl
  have z0 := blk_frozen hq.blk 0
  have hk := run_convert_octs [] (.slice none 0 0) w1 (octs_none _ _ _ (fun _ => rfl))
  have S0 : strOfNums [] = { data := #[] } := rfl
  rw [S0] at hk
  have H2 : Hid (∃ y, y ≠ 0 ∧ RQp w0 (w1.setCell ⟨N, 0, none⟩ (.slice none 0 0)) N [] none 0 y) := ⟨y, hy, hq.setNil⟩
  have G2 := hid (grown_trans G1.out (grown_set w1 ⟨N, 0, none⟩ (.slice none 0 0)))
  clear hq hy H1
  go_wp2_with fail
  go_ret
  exact ⟨rfl, H2.out, G2.out⟩
/-- A length that is too high. -/
theorem text_long (N : Nat) (n : Int) (r : List Int) (w0 w : World) (hn : 256 < n) (HN : Calls Tryd.prog 58 #[.pointer (some ⟨N, 0, none⟩)] w fun e w' => e = .returned (.int .i64 n) ∧ Hid (∃ a c, RQp w0 w' N r a c 0) ∧ Hid (w.grownBy w' (some N))) :
    Calls Tryd.prog 59 #[.pointer (some ⟨N, 0, none⟩)] w fun e w' => e = .returned (.string { data := #[] }) ∧ Hid (RQp w0 w' N [] none 0 5) ∧ Hid (w.grownBy w' (some N)) := by
  have HN := hid HN
  go_enter Tryd.func59, Tryd.ntmps59
  go_wp2_with fail
  refine HN.out.mono ?_
  rintro e w1 ⟨rfl, H1, G1⟩
  clear HN
  obtain ⟨a, c, hq⟩ := H1.out
  have HQ := hid hq
  clear hq H1
  go_wp2_with fail
  refine (refuse_any N r a c 0 5 w0 w1 HQ.out).mono ?_
  rintro e w2 ⟨rfl, H2, G2⟩
  rw [if_pos rfl] at H2
  go_wp2_with fail
  go_ret
  exact ⟨rfl, H2.out, grown_trans G1.out G2.out⟩
/-- A text that ends too early. -/
theorem text_short (N : Nat) (m : Nat) (r : List Int) (w0 w : World) (hn : m ≤ 256) (hr : r.length < m) (HN : Calls Tryd.prog 58 #[.pointer (some ⟨N, 0, none⟩)] w fun e w' => e = .returned (.int .i64 (m : Int)) ∧ Hid (∃ a c, RQp w0 w' N r a c 0) ∧ Hid (w.grownBy w' (some N))) :
    Calls Tryd.prog 59 #[.pointer (some ⟨N, 0, none⟩)] w fun e w' => e = .returned (.string { data := #[] }) ∧ Hid (RQp w0 w' N [] none 0 8) ∧ Hid (w.grownBy w' (some N)) := by
  have HN := hid HN
  have n1 : ¬ (256 : Int) < (m : Int) := by omega
  have n2 : (r.length : Int) < (m : Int) := by omega
  go_enter Tryd.func59, Tryd.ntmps59
  go_wp2_with fail
  refine HN.out.mono ?_
  rintro e w1 ⟨rfl, H1, G1⟩
  clear HN
  obtain ⟨a, c, hq⟩ := H1.out
  have HQ := hid hq
  have p0 : w1.cell? ⟨N, 0, none⟩ = some (.slice a r.length c) := blk_cell hq.blk 0 _ rfl
  clear hq H1
  go_wp2_with fail
  refine (refuse_any N r a c 0 8 w0 w1 HQ.out).mono ?_
  rintro e w2 ⟨rfl, H2, G2⟩
  rw [if_pos rfl] at H2
  go_wp2_with fail
  go_ret
  exact ⟨rfl, H2.out, grown_trans G1.out G2.out⟩
set_option maxRecDepth 20000 in
set_option maxHeartbeats 1000000 in
/-- A text. -/
theorem text_good (N : Nat) (m : Nat) (r : List Int) (w0 w : World) (hn : m ≤ 256) (hr : m ≤ r.length) (HN : Calls Tryd.prog 58 #[.pointer (some ⟨N, 0, none⟩)] w fun e w' => e = .returned (.int .i64 (m : Int)) ∧ Hid (∃ a c, RQp w0 w' N r a c 0) ∧ Hid (w.grownBy w' (some N))) :
    Calls Tryd.prog 59 #[.pointer (some ⟨N, 0, none⟩)] w fun e w' => e = .returned (.string (strOfNums (r.take m))) ∧ Hid (∃ a c, RQp w0 w' N (r.drop m) a c 0) ∧ Hid (w.grownBy w' (some N)) := by
  have HN := hid HN
  have n1 : ¬ (256 : Int) < (m : Int) := by omega
  have n2 : ¬ (r.length : Int) < (m : Int) := by omega
  have n3 : (m : Int) ≤ (r.length : Int) := by omega
  have n4 : (0 : Int) ≤ (m : Int) := by omega
  go_enter Tryd.func59, Tryd.ntmps59
  go_wp2_with fail
  refine HN.out.mono ?_
  rintro e w1 ⟨rfl, H1, G1⟩
  clear HN
  obtain ⟨a, c, hq⟩ := H1.out
  have p0 : w1.cell? ⟨N, 0, none⟩ = some (.slice a r.length c) := blk_cell hq.blk 0 _ rfl
  have z0 := blk_frozen hq.blk 0
  have ho := hq.octs.up hq.up
  rcases hq.form with ⟨rfl, rfl, rfl⟩ | ⟨b, off, rfl, hc, hm⟩
  · obtain rfl : m = 0 := by simpa using hr
    have hk := run_convert_octs [] (.slice none 0 0) w1 (octs_none _ _ _ (fun _ => rfl))
    have H2 : Hid (∃ a c, RQp w0 (w1.setCell ⟨N, 0, none⟩ (.slice none 0 0)) N [] a c 0) := ⟨none, 0, hq.setNil⟩
    have G2 := hid (grown_trans G1.out (grown_set w1 ⟨N, 0, none⟩ (.slice none 0 0)))
    have S0 : strOfNums [] = { data := #[] } := rfl
    rw [S0] at hk
    clear hq H1 ho
    go_wp2_with fail
    go_ret
    exact ⟨rfl, H2.out, G2.out⟩
  unfold maxLen at hm
  have hmc : (m : Int) ≤ (c : Int) := by omega
  have xl := hq.xl
  have hk := run_convert_octs _ _ _ (ho.cut rfl m hr)
  by_cases hcj : c = m
  · subst hcj
    have H2 := hid (hq.setEnd c hr rfl)
    have G2 := hid (grown_trans G1.out (grown_set w1 ⟨N, 0, none⟩ (.slice (some ⟨b, off, none⟩) 0 0)))
    have lj : r.length - c = 0 := by omega
    clear hq H1 ho
    go_wp2_with fail
    go_ret
    exact ⟨rfl, ⟨_, _, H2.out⟩, G2.out⟩
  · have H2 := hid (hq.setLeft m hr hcj)
    have G2 := hid (grown_trans G1.out (grown_set w1 ⟨N, 0, none⟩ (.slice (some ⟨b, off + m, none⟩) (r.length - m) (c - m))))
    clear hq H1 ho
    go_wp2_with fail
    go_ret
    exact ⟨rfl, ⟨_, _, H2.out⟩, G2.out⟩
/-- A text, in whatever state. -/
theorem readTxt_any (N : Nat) (s : List Int × Int) (w0 w : World) (h : RR w0 w N s) :
    Calls Tryd.prog 59 #[.pointer (some ⟨N, 0, none⟩)] w fun e w' => e = .returned (.string (strOfNums (txtS s).1)) ∧ Hid (RR w0 w' N (txtS s).2) ∧ Hid (w.grownBy w' (some N)) := by
  have HN := readNum_any N s w0 w h
  obtain ⟨l, a, c, y, hq, H⟩ := h
  rcases H with ⟨e1, rfl, rfl⟩ | ⟨e1, hy, rfl, rfl, rfl⟩
  · obtain ⟨l, y⟩ := s
    dsimp only at e1 hq
    subst e1
    rcases num_two hq.octs.1 with ⟨z, hz, g1, z', hz', g2⟩ | ⟨n, r, g1, n0, n1, g2⟩
    · have E : numS 1099511627776 4 (l, 0) = (0, (l, z)) := by unfold numS; simp only [if_true, g1]
      have F : txtS (l, 0) = ([], (l, z')) := by unfold txtS; simp only [if_true, g2]
      rw [E] at HN
      rw [F]
      refine (text_none N w0 w (HN.mono ?_)).mono ?_
      · rintro e w1 ⟨rfl, H1, G1⟩
        obtain ⟨l1, a1, c1, y1, h1, H⟩ := H1.out
        rcases H with ⟨q, _⟩ | ⟨_, q1, rfl, rfl, rfl⟩
        · exact absurd q hz
        · exact ⟨rfl, ⟨y1, q1, h1⟩, G1⟩
      · rintro e w1 ⟨rfl, H1, G1⟩
        obtain ⟨y1, q1, h1⟩ := H1.out
        exact ⟨rfl, RR.refused h1 q1 hz', G1⟩
    · have E : numS 1099511627776 4 (l, 0) = (n, (r, 0)) := numS_ok g1
      rw [E] at HN
      have HN2 : Calls Tryd.prog 58 #[.pointer (some ⟨N, 0, none⟩)] w fun e w' => e = .returned (.int .i64 n) ∧ Hid (∃ a c, RQp w0 w' N r a c 0) ∧ Hid (w.grownBy w' (some N)) := by
        refine HN.mono ?_
        rintro e w1 ⟨rfl, H1, G1⟩
        obtain ⟨l1, a1, c1, y1, h1, H⟩ := H1.out
        rcases H with ⟨_, rfl, rfl⟩ | ⟨q, _⟩
        · exact ⟨rfl, ⟨_, _, h1⟩, G1⟩
        · exact absurd rfl q
      rcases g2 with ⟨g3, g2⟩ | ⟨g3, g2⟩
      · have F : txtS (l, 0) = ([], (l, 5)) := by unfold txtS; simp only [if_true, g2]
        rw [F]
        refine (text_long N n r w0 w g3 HN2).mono ?_
        rintro e w1 ⟨rfl, H1, G1⟩
        exact ⟨rfl, RR.refused H1.out (by decide) (by show (5 : Int) ≠ 0; decide), G1⟩
      · obtain ⟨m, rfl⟩ : ∃ m : Nat, n = (m : Int) := ⟨n.toNat, by omega⟩
        by_cases hr : r.length < m
        · have F : txtS (l, 0) = ([], (r, 8)) := by
            unfold txtS
            simp only [if_true, g2]
            rw [if_pos (by omega)]
          rw [F]
          refine (text_short N m r w0 w (by omega) hr HN2).mono ?_
          rintro e w1 ⟨rfl, H1, G1⟩
          exact ⟨rfl, RR.refused H1.out (by decide) (by show (8 : Int) ≠ 0; decide), G1⟩
        · have F : txtS (l, 0) = (r.take m, (r.drop m, 0)) := by
            unfold txtS
            simp only [if_true, g2]
            rw [if_neg (by omega), Int.toNat_natCast]
          rw [F]
          refine (text_good N m r w0 w (by omega) (by omega) HN2).mono ?_
          rintro e w1 ⟨rfl, H1, G1⟩
          obtain ⟨a1, c1, h1⟩ := H1.out
          exact ⟨rfl, ⟨_, _, _, _, h1, .inl ⟨rfl, rfl, rfl⟩⟩, G1⟩
  · rw [txtS_stay e1]
    rw [numS_stay e1] at HN
    refine (text_none N w0 w (HN.mono ?_)).mono ?_
    · rintro e w1 ⟨rfl, H1, G1⟩
      obtain ⟨l1, a1, c1, y1, h1, H⟩ := H1.out
      rcases H with ⟨q, _⟩ | ⟨_, q1, rfl, rfl, rfl⟩
      · exact absurd q e1
      · exact ⟨rfl, ⟨y1, q1, h1⟩, G1⟩
    · rintro e w1 ⟨rfl, H1, G1⟩
      obtain ⟨y1, q1, h1⟩ := H1.out
      exact ⟨rfl, RR.refused h1 q1 e1, G1⟩
end Go.Proofs.YtpjmieiajhhbaaaDoor

/- The program's reader: a job. -/
namespace Go.Proofs.YtpjmieiajhhbaaaDoor
open Go.RowKit
set_option linter.unusedVariables false
set_option linter.unusedSimpArgs false

theorem results_qob1 {fn : Func} {q : Nat} (h : fn.results = #[.cell q 27]) (tmps : Array Value) (w : World) {N : Nat} {a0 a1 a2 a3 a4 a5 a6 a7 a8 a9 : Value} (ht : tmps.getD q undef = .pointer (some ⟨N, 0, none⟩))
    (hc : w.heap[N]? = some (.cells #[a0, a1, a2, a3, a4, a5, a6, a7, a8, a9] 27)) : (results fn tmps).run Tryd.prog w = .ok (.agg #[a0, a1, a2, a3, a4, a5, a6, a7, a8, a9]) w := by
  have c0 := blk_cell hc 0 a0 rfl
  have c1 := blk_cell hc 1 a1 rfl
  have c2 := blk_cell hc 2 a2 rfl
  have c3 := blk_cell hc 3 a3 rfl
  have c4 := blk_cell hc 4 a4 rfl
  have c5 := blk_cell hc 5 a5 rfl
  have c6 := blk_cell hc 6 a6 rfl
  have c7 := blk_cell hc 7 a7 rfl
  have c8 := blk_cell hc 8 a8 rfl
  have c9 := blk_cell hc 9 a9 rfl
  have ht' : tmps[q]?.getD undef = .pointer (some ⟨N, 0, none⟩) := by simpa using ht
  simp only [results, h]
  simp [ht', go_sem, c0, c1, c2, c3, c4, c5, c6, c7, c8, c9]

theorem RR.there {w0 w : World} {N : Nat} {s : List Int × Int} (h : RR w0 w N s) : N < w.heap.size ∧ w0.heap.size ≤ N := by
  obtain ⟨l, a, c, y, hq, H⟩ := h
  exact ⟨blk_lt hq.blk, hq.n⟩
set_option maxHeartbeats 4000000 in
set_option maxRecDepth 20000 in
theorem job_any (N : Nat) (X : List Int) (w0 w : World) (h : RR w0 w N (X, 0)) :
    Calls Tryd.prog 32 #[.pointer (some ⟨N, 0, none⟩)] w fun e w' => e = .returned (jobV (readJ X)) ∧ Hid (RR w0 w' N (s10 X).2) := by
  obtain ⟨hN, hN0⟩ := h.there
  obtain ⟨q0, q1, q2⟩ := boxes2 w #[.int .i64 0, .string { data := #[] }, .string { data := #[] }, .string { data := #[] }, .int .i64 0, .int .i64 0, .int .i64 0, .int .i64 0, .int .i64 0, .int .i64 0] #[.int .i64 0, .int .i64 0, .int .i64 0, .int .i64 0, .int .i64 0, .int .i64 0, .int .i64 0] 27 65
  have R0 := hid q0
  have M0 := hid q1
  have H0 := hid (h.upw q2)
  have JV : Hid (jobV (readJ X) = .agg #[.int .i64 (s1 X).1, .string (strOfNums (s8 X).1), .string (strOfNums (s9 X).1), .string (strOfNums (s10 X).1), .int .i64 (s2 X).1, .int .i64 (s3 X).1, .int .i64 (s4 X).1, .int .i64 (s5 X).1, .int .i64 (s6 X).1, .int .i64 (s7 X).1]) := rfl
  clear q0 q1 q2 h
  go_enter Tryd.func32, Tryd.ntmps32
  go_wp2_with fail
  generalize hW : World.alloc (World.alloc w _) _ = W0 at *
  clear hW
  generalize hR : w.heap.size = R at *
  clear hR
  refine wp_loop_rounds 8 ?_
  rw [rounds_succ]
  have HN : Hid (Calls Tryd.prog 58 #[.pointer (some ⟨N, 0, none⟩)] W0 fun e w' => e = .returned (.int .i64 (s1 X).1) ∧ Hid (RR w0 w' N (s1 X).2) ∧ Hid (W0.grownBy w' (some N))) := readNum_any N (X, 0) w0 W0 H0.out
  go_wp2_with fail
  refine HN.out.mono ?_
  rintro e v0 ⟨rfl, hr, hg⟩
  have nb := hid (blk_grown M0.out hg.out (by simp; omega))
  have rb := hid (blk_grown R0.out hg.out (by simp; omega))
  have mc := blk_cell nb.out 0 _ rfl
  have mf := blk_frozen nb.out 0
  have nb2 := blk_set nb.out 0 (.int .i64 (s1 X).1)
  simp only [List.setIfInBounds_toArray, List.set_cons_zero, List.set_cons_succ] at nb2
  have M1 := hid nb2
  have R1 := hid (blk_grown rb.out (grown_set v0 ⟨R + 1, 0, none⟩ (.int .i64 (s1 X).1)) (by simp))
  have H1 := hid (hr.out.far (grown_set v0 ⟨R + 1, 0, none⟩ (.int .i64 (s1 X).1)) (fun g e => by simp at e; omega))
  clear HN hr hg nb rb nb2 M0 R0 H0
  go_wp2_with fail
  clear mc mf
  generalize hW : World.setCell v0 _ _ = W1 at *
  clear hW
  rw [rounds_succ]
  have HN : Hid (Calls Tryd.prog 58 #[.pointer (some ⟨N, 0, none⟩)] W1 fun e w' => e = .returned (.int .i64 (s2 X).1) ∧ Hid (RR w0 w' N (s2 X).2) ∧ Hid (W1.grownBy w' (some N))) := readNum_any N (s1 X).2 w0 W1 H1.out
  go_wp2_with fail
  refine HN.out.mono ?_
  rintro e v1 ⟨rfl, hr, hg⟩
  have nb := hid (blk_grown M1.out hg.out (by simp; omega))
  have rb := hid (blk_grown R1.out hg.out (by simp; omega))
  have mc := blk_cell nb.out 1 _ rfl
  have mf := blk_frozen nb.out 1
  have nb2 := blk_set nb.out 1 (.int .i64 (s2 X).1)
  simp only [List.setIfInBounds_toArray, List.set_cons_zero, List.set_cons_succ] at nb2
  have M2 := hid nb2
  have R2 := hid (blk_grown rb.out (grown_set v1 ⟨R + 1, 1, none⟩ (.int .i64 (s2 X).1)) (by simp))
  have H2 := hid (hr.out.far (grown_set v1 ⟨R + 1, 1, none⟩ (.int .i64 (s2 X).1)) (fun g e => by simp at e; omega))
  clear HN hr hg nb rb nb2 M1 R1 H1
  go_wp2_with fail
  clear mc mf
  generalize hW : World.setCell v1 _ _ = W2 at *
  clear hW
  rw [rounds_succ]
  have HN : Hid (Calls Tryd.prog 58 #[.pointer (some ⟨N, 0, none⟩)] W2 fun e w' => e = .returned (.int .i64 (s3 X).1) ∧ Hid (RR w0 w' N (s3 X).2) ∧ Hid (W2.grownBy w' (some N))) := readNum_any N (s2 X).2 w0 W2 H2.out
  go_wp2_with fail
  refine HN.out.mono ?_
  rintro e v2 ⟨rfl, hr, hg⟩
  have nb := hid (blk_grown M2.out hg.out (by simp; omega))
  have rb := hid (blk_grown R2.out hg.out (by simp; omega))
  have mc := blk_cell nb.out 2 _ rfl
  have mf := blk_frozen nb.out 2
  have nb2 := blk_set nb.out 2 (.int .i64 (s3 X).1)
  simp only [List.setIfInBounds_toArray, List.set_cons_zero, List.set_cons_succ] at nb2
  have M3 := hid nb2
  have R3 := hid (blk_grown rb.out (grown_set v2 ⟨R + 1, 2, none⟩ (.int .i64 (s3 X).1)) (by simp))
  have H3 := hid (hr.out.far (grown_set v2 ⟨R + 1, 2, none⟩ (.int .i64 (s3 X).1)) (fun g e => by simp at e; omega))
  clear HN hr hg nb rb nb2 M2 R2 H2
  go_wp2_with fail
  clear mc mf
  generalize hW : World.setCell v2 _ _ = W3 at *
  clear hW
  rw [rounds_succ]
  have HN : Hid (Calls Tryd.prog 58 #[.pointer (some ⟨N, 0, none⟩)] W3 fun e w' => e = .returned (.int .i64 (s4 X).1) ∧ Hid (RR w0 w' N (s4 X).2) ∧ Hid (W3.grownBy w' (some N))) := readNum_any N (s3 X).2 w0 W3 H3.out
  go_wp2_with fail
  refine HN.out.mono ?_
  rintro e v3 ⟨rfl, hr, hg⟩
  have nb := hid (blk_grown M3.out hg.out (by simp; omega))
  have rb := hid (blk_grown R3.out hg.out (by simp; omega))
  have mc := blk_cell nb.out 3 _ rfl
  have mf := blk_frozen nb.out 3
  have nb2 := blk_set nb.out 3 (.int .i64 (s4 X).1)
  simp only [List.setIfInBounds_toArray, List.set_cons_zero, List.set_cons_succ] at nb2
  have M4 := hid nb2
  have R4 := hid (blk_grown rb.out (grown_set v3 ⟨R + 1, 3, none⟩ (.int .i64 (s4 X).1)) (by simp))
  have H4 := hid (hr.out.far (grown_set v3 ⟨R + 1, 3, none⟩ (.int .i64 (s4 X).1)) (fun g e => by simp at e; omega))
  clear HN hr hg nb rb nb2 M3 R3 H3
  go_wp2_with fail
  clear mc mf
  generalize hW : World.setCell v3 _ _ = W4 at *
  clear hW
  rw [rounds_succ]
  have HN : Hid (Calls Tryd.prog 58 #[.pointer (some ⟨N, 0, none⟩)] W4 fun e w' => e = .returned (.int .i64 (s5 X).1) ∧ Hid (RR w0 w' N (s5 X).2) ∧ Hid (W4.grownBy w' (some N))) := readNum_any N (s4 X).2 w0 W4 H4.out
  go_wp2_with fail
  refine HN.out.mono ?_
  rintro e v4 ⟨rfl, hr, hg⟩
  have nb := hid (blk_grown M4.out hg.out (by simp; omega))
  have rb := hid (blk_grown R4.out hg.out (by simp; omega))
  have mc := blk_cell nb.out 4 _ rfl
  have mf := blk_frozen nb.out 4
  have nb2 := blk_set nb.out 4 (.int .i64 (s5 X).1)
  simp only [List.setIfInBounds_toArray, List.set_cons_zero, List.set_cons_succ] at nb2
  have M5 := hid nb2
  have R5 := hid (blk_grown rb.out (grown_set v4 ⟨R + 1, 4, none⟩ (.int .i64 (s5 X).1)) (by simp))
  have H5 := hid (hr.out.far (grown_set v4 ⟨R + 1, 4, none⟩ (.int .i64 (s5 X).1)) (fun g e => by simp at e; omega))
  clear HN hr hg nb rb nb2 M4 R4 H4
  go_wp2_with fail
  clear mc mf
  generalize hW : World.setCell v4 _ _ = W5 at *
  clear hW
  rw [rounds_succ]
  have HN : Hid (Calls Tryd.prog 58 #[.pointer (some ⟨N, 0, none⟩)] W5 fun e w' => e = .returned (.int .i64 (s6 X).1) ∧ Hid (RR w0 w' N (s6 X).2) ∧ Hid (W5.grownBy w' (some N))) := readNum_any N (s5 X).2 w0 W5 H5.out
  go_wp2_with fail
  refine HN.out.mono ?_
  rintro e v5 ⟨rfl, hr, hg⟩
  have nb := hid (blk_grown M5.out hg.out (by simp; omega))
  have rb := hid (blk_grown R5.out hg.out (by simp; omega))
  have mc := blk_cell nb.out 5 _ rfl
  have mf := blk_frozen nb.out 5
  have nb2 := blk_set nb.out 5 (.int .i64 (s6 X).1)
  simp only [List.setIfInBounds_toArray, List.set_cons_zero, List.set_cons_succ] at nb2
  have M6 := hid nb2
  have R6 := hid (blk_grown rb.out (grown_set v5 ⟨R + 1, 5, none⟩ (.int .i64 (s6 X).1)) (by simp))
  have H6 := hid (hr.out.far (grown_set v5 ⟨R + 1, 5, none⟩ (.int .i64 (s6 X).1)) (fun g e => by simp at e; omega))
  clear HN hr hg nb rb nb2 M5 R5 H5
  go_wp2_with fail
  clear mc mf
  generalize hW : World.setCell v5 _ _ = W6 at *
  clear hW
  rw [rounds_succ]
  have HN : Hid (Calls Tryd.prog 58 #[.pointer (some ⟨N, 0, none⟩)] W6 fun e w' => e = .returned (.int .i64 (s7 X).1) ∧ Hid (RR w0 w' N (s7 X).2) ∧ Hid (W6.grownBy w' (some N))) := readNum_any N (s6 X).2 w0 W6 H6.out
  go_wp2_with fail
  refine HN.out.mono ?_
  rintro e v6 ⟨rfl, hr, hg⟩
  have nb := hid (blk_grown M6.out hg.out (by simp; omega))
  have rb := hid (blk_grown R6.out hg.out (by simp; omega))
  have mc := blk_cell nb.out 6 _ rfl
  have mf := blk_frozen nb.out 6
  have nb2 := blk_set nb.out 6 (.int .i64 (s7 X).1)
  simp only [List.setIfInBounds_toArray, List.set_cons_zero, List.set_cons_succ] at nb2
  have M7 := hid nb2
  have R7 := hid (blk_grown rb.out (grown_set v6 ⟨R + 1, 6, none⟩ (.int .i64 (s7 X).1)) (by simp))
  have H7 := hid (hr.out.far (grown_set v6 ⟨R + 1, 6, none⟩ (.int .i64 (s7 X).1)) (fun g e => by simp at e; omega))
  clear HN hr hg nb rb nb2 M6 R6 H6
  go_wp2_with fail
  clear mc mf
  generalize hW : World.setCell v6 _ _ = W7 at *
  clear hW
  rw [rounds_succ]
  go_wp2_with fail
  have P7 := hid (blk_new W7 (.cells #[.string { data := #[] }, .string { data := #[] }, .string { data := #[] }] 68))
  have M8 := hid (blk_up M7.out (up_alloc W7 (.cells #[.string { data := #[] }, .string { data := #[] }, .string { data := #[] }] 68)))
  have R8 := hid (blk_up R7.out (up_alloc W7 (.cells #[.string { data := #[] }, .string { data := #[] }, .string { data := #[] }] 68)))
  have H8 := hid (H7.out.upw (up_alloc W7 (.cells #[.string { data := #[] }, .string { data := #[] }, .string { data := #[] }] 68)))
  have lN := H7.out.there.1
  have lM := blk_lt M7.out
  have lR := blk_lt R7.out
  clear M7 R7 H7
  generalize hW : World.alloc W7 _ = W8 at *
  clear hW
  generalize hP : W7.heap.size = P at *
  clear hP
  have P8 := P7
  clear P7
  refine wp_loop_rounds 4 ?_
  rw [rounds_succ]
  have HN : Hid (Calls Tryd.prog 59 #[.pointer (some ⟨N, 0, none⟩)] W8 fun e w' => e = .returned (.string (strOfNums (s8 X).1)) ∧ Hid (RR w0 w' N (s8 X).2) ∧ Hid (W8.grownBy w' (some N))) := readTxt_any N (s7 X).2 w0 W8 H8.out
  go_wp2_with fail
  refine HN.out.mono ?_
  rintro e v8 ⟨rfl, hr, hg⟩
  have nb := hid (blk_grown M8.out hg.out (by simp; omega))
  have rb := hid (blk_grown R8.out hg.out (by simp; omega))
  have pb := hid (blk_grown P8.out hg.out (by simp; omega))
  have mc := blk_cell pb.out 0 _ rfl
  have mf := blk_frozen pb.out 0
  have pb2 := blk_set pb.out 0 (.string (strOfNums (s8 X).1))
  simp only [List.setIfInBounds_toArray, List.set_cons_zero, List.set_cons_succ] at pb2
  have P9 := hid pb2
  have M9 := hid (blk_grown nb.out (grown_set v8 ⟨P, 0, none⟩ (.string (strOfNums (s8 X).1))) (by simp; omega))
  have R9 := hid (blk_grown rb.out (grown_set v8 ⟨P, 0, none⟩ (.string (strOfNums (s8 X).1))) (by simp; omega))
  have H9 := hid (hr.out.far (grown_set v8 ⟨P, 0, none⟩ (.string (strOfNums (s8 X).1))) (fun g e => by simp at e; omega))
  clear HN hr hg nb rb pb pb2 M8 R8 H8 P8
  go_wp2_with fail
  clear mc mf
  generalize hW : World.setCell v8 _ _ = W9 at *
  clear hW
  rw [rounds_succ]
  have HN : Hid (Calls Tryd.prog 59 #[.pointer (some ⟨N, 0, none⟩)] W9 fun e w' => e = .returned (.string (strOfNums (s9 X).1)) ∧ Hid (RR w0 w' N (s9 X).2) ∧ Hid (W9.grownBy w' (some N))) := readTxt_any N (s8 X).2 w0 W9 H9.out
  go_wp2_with fail
  refine HN.out.mono ?_
  rintro e v9 ⟨rfl, hr, hg⟩
  have nb := hid (blk_grown M9.out hg.out (by simp; omega))
  have rb := hid (blk_grown R9.out hg.out (by simp; omega))
  have pb := hid (blk_grown P9.out hg.out (by simp; omega))
  have mc := blk_cell pb.out 1 _ rfl
  have mf := blk_frozen pb.out 1
  have pb2 := blk_set pb.out 1 (.string (strOfNums (s9 X).1))
  simp only [List.setIfInBounds_toArray, List.set_cons_zero, List.set_cons_succ] at pb2
  have P10 := hid pb2
  have M10 := hid (blk_grown nb.out (grown_set v9 ⟨P, 1, none⟩ (.string (strOfNums (s9 X).1))) (by simp; omega))
  have R10 := hid (blk_grown rb.out (grown_set v9 ⟨P, 1, none⟩ (.string (strOfNums (s9 X).1))) (by simp; omega))
  have H10 := hid (hr.out.far (grown_set v9 ⟨P, 1, none⟩ (.string (strOfNums (s9 X).1))) (fun g e => by simp at e; omega))
  clear HN hr hg nb rb pb pb2 M9 R9 H9 P9
  go_wp2_with fail
  clear mc mf
  generalize hW : World.setCell v9 _ _ = W10 at *
  clear hW
  rw [rounds_succ]
  have HN : Hid (Calls Tryd.prog 59 #[.pointer (some ⟨N, 0, none⟩)] W10 fun e w' => e = .returned (.string (strOfNums (s10 X).1)) ∧ Hid (RR w0 w' N (s10 X).2) ∧ Hid (W10.grownBy w' (some N))) := readTxt_any N (s9 X).2 w0 W10 H10.out
  go_wp2_with fail
  refine HN.out.mono ?_
  rintro e v10 ⟨rfl, hr, hg⟩
  have nb := hid (blk_grown M10.out hg.out (by simp; omega))
  have rb := hid (blk_grown R10.out hg.out (by simp; omega))
  have pb := hid (blk_grown P10.out hg.out (by simp; omega))
  have mc := blk_cell pb.out 2 _ rfl
  have mf := blk_frozen pb.out 2
  have pb2 := blk_set pb.out 2 (.string (strOfNums (s10 X).1))
  simp only [List.setIfInBounds_toArray, List.set_cons_zero, List.set_cons_succ] at pb2
  have P11 := hid pb2
  have M11 := hid (blk_grown nb.out (grown_set v10 ⟨P, 2, none⟩ (.string (strOfNums (s10 X).1))) (by simp; omega))
  have R11 := hid (blk_grown rb.out (grown_set v10 ⟨P, 2, none⟩ (.string (strOfNums (s10 X).1))) (by simp; omega))
  have H11 := hid (hr.out.far (grown_set v10 ⟨P, 2, none⟩ (.string (strOfNums (s10 X).1))) (fun g e => by simp at e; omega))
  clear HN hr hg nb rb pb pb2 M10 R10 H10 P10
  go_wp2_with fail
  clear mc mf
  generalize hW : World.setCell v10 _ _ = W11 at *
  clear hW
  rw [rounds_succ]
  have n0 := blk_cell M11.out 0 _ rfl
  have n1 := blk_cell M11.out 1 _ rfl
  have n2 := blk_cell M11.out 2 _ rfl
  have n3 := blk_cell M11.out 3 _ rfl
  have n4 := blk_cell M11.out 4 _ rfl
  have n5 := blk_cell M11.out 5 _ rfl
  have n6 := blk_cell M11.out 6 _ rfl
  have t0 := blk_cell P11.out 0 _ rfl
  have t1 := blk_cell P11.out 1 _ rfl
  have t2 := blk_cell P11.out 2 _ rfl
  have rf0 := blk_frozen R11.out 0
  have rf1 := blk_frozen R11.out 1
  have rf2 := blk_frozen R11.out 2
  have rf3 := blk_frozen R11.out 3
  have rf4 := blk_frozen R11.out 4
  have rf5 := blk_frozen R11.out 5
  have rf6 := blk_frozen R11.out 6
  have rf7 := blk_frozen R11.out 7
  have rf8 := blk_frozen R11.out 8
  have rf9 := blk_frozen R11.out 9
  have ry0 := blk_cell R11.out 0 _ rfl
  have ry1 := blk_cell R11.out 1 _ rfl
  have ry2 := blk_cell R11.out 2 _ rfl
  have ry3 := blk_cell R11.out 3 _ rfl
  have ry4 := blk_cell R11.out 4 _ rfl
  have ry5 := blk_cell R11.out 5 _ rfl
  have ry6 := blk_cell R11.out 6 _ rfl
  have ry7 := blk_cell R11.out 7 _ rfl
  have ry8 := blk_cell R11.out 8 _ rfl
  have ry9 := blk_cell R11.out 9 _ rfl
  have FB := hid (set10_blk R11.out (.int .i64 (s1 X).1) (.string (strOfNums (s8 X).1)) (.string (strOfNums (s9 X).1)) (.string (strOfNums (s10 X).1)) (.int .i64 (s2 X).1) (.int .i64 (s3 X).1) (.int .i64 (s4 X).1) (.int .i64 (s5 X).1) (.int .i64 (s6 X).1) (.int .i64 (s7 X).1))
  have FG := hid (set10_grown W11 R (.int .i64 (s1 X).1) (.string (strOfNums (s8 X).1)) (.string (strOfNums (s9 X).1)) (.string (strOfNums (s10 X).1)) (.int .i64 (s2 X).1) (.int .i64 (s3 X).1) (.int .i64 (s4 X).1) (.int .i64 (s5 X).1) (.int .i64 (s6 X).1) (.int .i64 (s7 X).1))
  have FR := hid (H11.out.far FG.out (fun g e => by simp at e; omega))
  go_wp2_with fail
  refine bodyPost_ret (results_qob1 rfl _ _ rfl FB.out) rfl ?_
  exact ⟨by rw [JV.out], FR.out⟩
end Go.Proofs.YtpjmieiajhhbaaaDoor

/- Jobs: the program's Encode. -/
namespace Go.Proofs.YtpjmieiajhhbaaaDoor
open Go.RowKit
set_option linter.unusedVariables false
set_option linter.unusedSimpArgs false

theorem cells_intJ : Tryd.prog.cellsOf 3 = 1 := by kernel_rfl
theorem at_num7 (a b c d e f g : Value) (k : Nat) (v : Value) (h : (#[a, b, c, d, e, f, g] : Array Value)[k]? = some v) (w : World) : (Instr.index 65 (.agg #[a, b, c, d, e, f, g]) (.int .i64 (k : Int))).run Tryd.prog w = .ok v w := by
  have hk : k < 7 := (Array.getElem?_eq_some_iff.1 h).1
  have p : ∀ j v, (#[a, b, c, d, e, f, g] : Array Value)[j]? = some v → (part 3 #[a, b, c, d, e, f, g] j).run Tryd.prog w = .ok v w := fun j v h => run_part_plain w (by kernel_rfl) h
  have p0 := p 0 _ rfl
  have p1 := p 1 _ rfl
  have p2 := p 2 _ rfl
  have p3 := p 3 _ rfl
  have p4 := p 4 _ rfl
  have p5 := p 5 _ rfl
  have p6 := p 6 _ rfl
  match k, hk, h with
  | 0, _, h =>
    cases h
    simp [Instr.index, run_underlying Tryd.underlying65, asIntOf, cells_intJ, go_sem]
  | 1, _, h =>
    cases h
    simp [Instr.index, run_underlying Tryd.underlying65, asIntOf, cells_intJ, go_sem]
  | 2, _, h =>
    cases h
    simp [Instr.index, run_underlying Tryd.underlying65, asIntOf, cells_intJ, go_sem]
  | 3, _, h =>
    cases h
    simp [Instr.index, run_underlying Tryd.underlying65, asIntOf, cells_intJ, go_sem]
  | 4, _, h =>
    cases h
    simp [Instr.index, run_underlying Tryd.underlying65, asIntOf, cells_intJ, go_sem]
  | 5, _, h =>
    cases h
    simp [Instr.index, run_underlying Tryd.underlying65, asIntOf, cells_intJ, go_sem]
  | 6, _, h =>
    cases h
    simp [Instr.index, run_underlying Tryd.underlying65, asIntOf, cells_intJ, go_sem]
theorem at_txt3 (a b c : Value) (k : Nat) (v : Value) (h : (#[a, b, c] : Array Value)[k]? = some v) (w : World) : (Instr.index 68 (.agg #[a, b, c]) (.int .i64 (k : Int))).run Tryd.prog w = .ok v w := by
  have hk : k < 3 := (Array.getElem?_eq_some_iff.1 h).1
  have p : ∀ j v, (#[a, b, c] : Array Value)[j]? = some v → (part 9 #[a, b, c] j).run Tryd.prog w = .ok v w := fun j v h => run_part_plain w (by kernel_rfl) h
  have p0 := p 0 _ rfl
  have p1 := p 1 _ rfl
  have p2 := p 2 _ rfl
  match k, hk, h with
  | 0, _, h =>
    cases h
    simp [Instr.index, run_underlying Tryd.underlying68, asIntOf, cells_strJ, go_sem]
  | 1, _, h =>
    cases h
    simp [Instr.index, run_underlying Tryd.underlying68, asIntOf, cells_strJ, go_sem]
  | 2, _, h =>
    cases h
    simp [Instr.index, run_underlying Tryd.underlying68, asIntOf, cells_strJ, go_sem]
set_option maxHeartbeats 4000000 in
set_option maxRecDepth 20000 in
theorem encodeE_any (j : Jb) (hj : j.ok) (w : World) (he : Env w) : Calls Tryd.prog 9 #[jobV j] w fun e w' => e = .returned (.tuple #[.string (strOfNums (encP j).1), .int .i64 (encP j).2]) ∧ Below w.heap.size w w' := by
  have HC : Hid (∀ w', Below w.heap.size w w' → Calls Tryd.prog 14 #[jobV j] w' fun e w'' => e = .returned (.int .i64 (chkJ j)) ∧ Below w'.heap.size w' w'') := fun w' hb => checkE_job j hj w' (he.up hb)
  have HN := hid (numbersOf_any j)
  have HX := hid (textsOf_any j)
  clear he
  have b0 := hid (blk_new w (.cells (jobC j) 27))
  have U0 := hid (up_alloc w (.cells (jobC j) 27))
  have EP : Hid (encP j = if chkJ j ≠ 0 then ([], 9) else (encJ j, 0)) := rfl
  unfold jobC at b0 U0
  unfold jobV at *
  rcases chkJ_two j with hc | hc
  rotate_left
  · have E : Hid (encP j = ([], 9)) := EP.out.trans (if_pos (by rw [hc]; simp))
    rw [hc] at HC
    clear hj EP hc
    go_enter Tryd.func9, Tryd.ntmps9
    go_wp2_with fail
    refine (HC.out _ U0.out).mono ?_
    rintro e w1 ⟨rfl, hb1⟩
    go_wp2_with fail
    go_ret2
    exact ⟨by rw [E.out]; rfl, up_trans U0.out hb1⟩
  have E : Hid (encP j = (encJ j, 0)) := EP.out.trans (if_neg (by rw [hc]; simp))
  rw [hc] at HC
  have NI := hid (nums_in hc)
  have TI : Hid (∀ x ∈ textsJ j, x.length ≤ 200 ∧ ∀ y ∈ x, 0 ≤ y ∧ y ≤ 255) := by
    intro x hx
    refine ⟨texts_in hc x hx, ?_⟩
    simp only [textsJ, List.mem_cons, List.not_mem_nil, or_false] at hx
    rcases hx with rfl | rfl | rfl
    · exact hj.na.1
    · exact hj.ru.1
    · exact hj.pa.1
  have CI : Hid (intsC (numsJ j) = #[.int .i64 j.id, .int .i64 j.st, .int .i64 j.du, .int .i64 j.tr, .int .i64 j.wk, .int .i64 j.tk, .int .i64 j.un]) := rfl
  have CS : Hid (strsC (textsJ j) = #[.string (strOfNums j.na), .string (strOfNums j.ru), .string (strOfNums j.pa)]) := rfl
  have NL : Hid ((numsJ j).length = 7) := rfl
  have TL : Hid ((textsJ j).length = 3) := rfl
  have EJ : Hid (encJ j = catO (numsJ j) ++ catT (textsJ j)) := rfl
  clear hj EP hc
  go_enter Tryd.func9, Tryd.ntmps9
  go_wp2_with fail
  refine (HC.out _ U0.out).mono ?_
  rintro e w1 ⟨rfl, hb1⟩
  have B1 := hid (blk_up b0.out hb1)
  have U1 := hid (up_trans U0.out hb1)
  have x0 := blk_cell B1.out 0 _ rfl
  have x1 := blk_cell B1.out 1 _ rfl
  have x2 := blk_cell B1.out 2 _ rfl
  have x3 := blk_cell B1.out 3 _ rfl
  have x4 := blk_cell B1.out 4 _ rfl
  have x5 := blk_cell B1.out 5 _ rfl
  have x6 := blk_cell B1.out 6 _ rfl
  have x7 := blk_cell B1.out 7 _ rfl
  have x8 := blk_cell B1.out 8 _ rfl
  have x9 := blk_cell B1.out 9 _ rfl
  clear hb1 b0 U0
  go_wp2_with fail
  refine (HN.out _).mono ?_
  rintro e W2 ⟨rfl, hb2⟩
  have B2 := hid (blk_up B1.out hb2)
  have U2 := hid (up_trans U1.out hb2)
  clear hb2 B1 U1 HN x0 x1 x2 x3 x4 x5 x6 x7 x8 x9
  go_wp2_with fail
  have IXN : Hid (∀ (k : Nat) (x : Int), k < (numsJ j).length → (numsJ j).getD k 0 = x → ∀ w', (Instr.index 65 (.agg #[.int .i64 j.id, .int .i64 j.st, .int .i64 j.du, .int .i64 j.tr, .int .i64 j.wk, .int .i64 j.tk, .int .i64 j.un]) (.int .i64 (k : Int))).run Tryd.prog w' = .ok (.int .i64 x) w') := fun k x hk hx w' => at_num7 _ _ _ _ _ _ _ k _ (by have h := intsC_at hk; rw [hx] at h; exact h) w'
  have IXT : Hid (∀ (k : Nat) (x : List Int), k < (textsJ j).length → (textsJ j).getD k [] = x → ∀ w', (Instr.index 68 (.agg #[.string (strOfNums j.na), .string (strOfNums j.ru), .string (strOfNums j.pa)]) (.int .i64 (k : Int))).run Tryd.prog w' = .ok (.string (strOfNums x)) w') := fun k x hk hx w' => at_txt3 _ _ _ k _ (by have h := strsC_at hk; rw [hx] at h; exact h) w'
  generalize hV : Value.agg #[.int .i64 j.id, .int .i64 j.st, .int .i64 j.du, .int .i64 j.tr, .int .i64 j.wk, .int .i64 j.tk, .int .i64 j.un] = VN at IXN ⊢
  clear hV
  have O0 : Hid (OwnB W2 w.heap.size (.slice none 0 0) (catO ((numsJ j).take 0))) := World.ownsRow_nil _ _ _ _
  go_loopw [5, 17] (fun v q wr => ∃ (k : Nat) (a : Option Addr) (m c : Nat), k ≤ 7 ∧ q = .int .i64 (k : Int) ∧ v = .slice a m c ∧ Hid (OwnB wr w.heap.size (.slice a m c) (catO ((numsJ j).take k))) ∧ Hid (wr.heap[w.heap.size]? = some (.cells #[.int .i64 j.id, .string (strOfNums j.na), .string (strOfNums j.ru), .string (strOfNums j.pa), .int .i64 j.st, .int .i64 j.du, .int .i64 j.tr, .int .i64 j.wk, .int .i64 j.tk, .int .i64 j.un] 27)) ∧ Hid (Below w.heap.size w wr)) (fun _ q _ => (7 - intOf q).toNat)
  case atStart => exact ⟨0, none, 0, 0, by omega, rfl, rfl, O0, B2, U2⟩
  case round =>
    clear O0 B2 U2
    obtain ⟨k, a, m, c, hk, rfl, rfl, HO, HQ, HB⟩ := hrel
    have HBS := HB.out.size
    by_cases ck : k < 7
    · have ck' : (k : Int) < 7 := by omega
      have kl : k < (numsJ j).length := ck
      have xc := IXN.out k _ kl rfl
      obtain ⟨x0, x1⟩ := NI.out ((numsJ j).getD k 0) (by simp [List.getD, kl])
      have TK := hid (catO_take (numsJ j) k kl)
      have LEN : (catO ((numsJ j).take k)).length ≤ 63 := by
        have := (catO_len ((numsJ j).take k) (fun y hy => NI.out y (List.mem_of_mem_take hy))).1
        have := NL.out
        rw [List.length_take] at *
        omega
      generalize (numsJ j).getD k 0 = x at *
      have gz := wrap_u64_id x x0 (by omega)
      have olen := octets_len x x0 (by omega)
      go_wp2_with fail
      refine (put_any x wr x0 (by omega)).mono ?_
      rintro e w4 ⟨v4, rfl, o4, b4⟩
      obtain ⟨a4, n4, c4, rfl, N4⟩ := own_shape o4
      have P4 : Hid (Octs w4 (.slice a4 n4 c4) (octets x)) := Octs.own o4 (octets_octet x x0 (by omega))
      have O4 : Hid (OwnB w4 w.heap.size (.slice a m c) (catO ((numsJ j).take k))) := own_up HO.out b4
      have X4 := hid (blk_up HQ.out b4)
      have U4 := hid (up_trans HB.out b4)
      have S4 : Hid (w.heap.size ≤ w4.heap.size) := U4.out.size
      have HB4 : Hid ((catO ((numsJ j).take k)).length + (octets x).length ≤ 140737488355328) := by unfold Hid; omega
      clear o4 b4 HO HQ HB xc gz IXN IXT
      go_wp2_with (at_builtin; refine wpList_append_octs _ rfl _ _ rfl w.heap.size (.slice a m c) (catO ((numsJ j).take k)) rfl O4.out (.slice a4 n4 c4) _ rfl P4.out HB4.out S4.out ?_)
      intro v5 w5 o5 g5
      obtain ⟨a5, n5, c5, rfl, N5⟩ := own_shape o5
      have O5 : Hid (OwnB w5 w.heap.size (.slice a5 n5 c5) (catO ((numsJ j).take (k + 1)))) := by
        unfold Hid
        rw [TK.out]
        exact o5
      have X5 := hid (keep_blk X4.out O4.out g5 (by decide))
      have U5 : Hid (Below w.heap.size w w5) := U4.out.grown g5 U4.out.size (fun i hi => (O4.out.lt i hi).1)
      clear o5 g5 O4 X4 U4 P4 S4 HB4 LEN olen TK
      go_wp2
      exact ⟨⟨k + 1, _, _, _, by omega, by go_num, rfl, O5, X5, U5⟩, by simp [intOf]; omega⟩
    · obtain rfl : k = 7 := by omega
      rw [show ((7 : Nat) : Int) = 7 from rfl]
      have O7 : Hid (OwnB wr w.heap.size (.slice a m c) (catO (numsJ j) ++ catT ((textsJ j).take 0))) := by
        have h := HO.out
        rw [show (numsJ j).take 7 = numsJ j from rfl] at h
        unfold Hid
        rw [show catT ((textsJ j).take 0) = [] from rfl, List.append_nil]
        exact h
      have x0 := blk_cell HQ.out 0 _ rfl
      have x1 := blk_cell HQ.out 1 _ rfl
      have x2 := blk_cell HQ.out 2 _ rfl
      have x3 := blk_cell HQ.out 3 _ rfl
      have x4 := blk_cell HQ.out 4 _ rfl
      have x5 := blk_cell HQ.out 5 _ rfl
      have x6 := blk_cell HQ.out 6 _ rfl
      have x7 := blk_cell HQ.out 7 _ rfl
      have x8 := blk_cell HQ.out 8 _ rfl
      have x9 := blk_cell HQ.out 9 _ rfl
      have LC := (catO_len (numsJ j) NI.out).1
      rw [NL.out] at LC
      clear HO IXN HBS
      go_wp2_with fail
      refine (HX.out _).mono ?_
      rintro e W8 ⟨rfl, hb8⟩
      have O8 := hid (own_up O7.out hb8)
      have U8 := hid (up_trans HB.out hb8)
      clear hb8 O7 HQ HB HX x0 x1 x2 x3 x4 x5 x6 x7 x8 x9
      go_wp2_with fail
      generalize hV : Value.agg #[.string (strOfNums j.na), .string (strOfNums j.ru), .string (strOfNums j.pa)] = VT at IXT ⊢
      clear hV
      go_loopw [5, 28] (fun v q ws => ∃ (k : Nat) (a : Option Addr) (m c : Nat), k ≤ 3 ∧ q = .int .i64 (k : Int) ∧ v = .slice a m c ∧ Hid (OwnB ws w.heap.size (.slice a m c) (catO (numsJ j) ++ catT ((textsJ j).take k))) ∧ Hid (Below w.heap.size w ws)) (fun _ q _ => (3 - intOf q).toNat)
      case atStart => exact ⟨0, a, m, c, by omega, rfl, rfl, O8, U8⟩
      case round =>
        clear O8 U8
        obtain ⟨k, a, m, c, hk, rfl, rfl, HO, HB⟩ := hrel
        have LT : (catT ((textsJ j).take k)).length ≤ 627 := by
          have := (catT_len ((textsJ j).take k) (fun y hy => TI.out y (List.mem_of_mem_take hy))).1
          have := TL.out
          rw [List.length_take] at *
          omega
        by_cases ck : k < 3
        · have ck' : (k : Int) < 3 := by omega
          have kl : k < (textsJ j).length := ck
          have xc := IXT.out k _ kl rfl
          obtain ⟨x0, x1⟩ := TI.out ((textsJ j).getD k []) (by simp [List.getD, kl])
          have TK := hid (catT_take (textsJ j) k kl)
          generalize (textsJ j).getD k [] = x at *
          have sz := strOfNums_size x
          have gz := wrap_u64_id (x.length : Int) (by omega) (by omega)
          have olen := octets_len (x.length : Int) (by omega) (by omega)
          have L0 : Hid ((catO (numsJ j) ++ catT ((textsJ j).take k)).length ≤ 700) := by unfold Hid; rw [List.length_append]; omega
          have nx : Hid (nums (strOfNums x) = x) := by
            unfold Hid nums strOfNums
            simp only [List.map_map]
            conv => rhs; rw [← List.map_id x]
            apply List.map_congr_left
            intro y hy
            have := x1 y hy
            simp
            omega
          obtain ⟨L, hL⟩ : ∃ L, L = catO (numsJ j) ++ catT ((textsJ j).take k) := ⟨_, rfl⟩
          rw [← hL] at HO L0
          have HLL : Hid (catO (numsJ j) ++ catT ((textsJ j).take k) = L) := hL.symm
          clear hL
          go_wp2_with fail
          refine (put_any (x.length : Int) _ (by omega) (by omega)).mono ?_
          rintro e w4 ⟨v4, rfl, o4, b4⟩
          obtain ⟨a4, n4, c4, rfl, N4⟩ := own_shape o4
          have P4 : Hid (Octs w4 (.slice a4 n4 c4) (octets (x.length : Int))) := Octs.own o4 (octets_octet _ (by omega) (by omega))
          have O4 : Hid (OwnB w4 w.heap.size (.slice a m c) L) := own_up HO.out b4
          have U4 := hid (up_trans HB.out b4)
          have S4 : Hid (w.heap.size ≤ w4.heap.size) := U4.out.size
          have HB4 : Hid (L.length + (octets (x.length : Int)).length ≤ 140737488355328) := by have := L0.out; unfold Hid; omega
          clear o4 b4 HO HB xc gz IXT
          go_wp2_with (at_builtin; refine wpList_append_octs _ rfl _ _ rfl w.heap.size (.slice a m c) L rfl O4.out (.slice a4 n4 c4) _ rfl P4.out HB4.out S4.out ?_)
          intro v5 w5 o5 g5
          obtain ⟨a5, n5, c5, rfl, N5⟩ := own_shape o5
          have O5 : Hid (OwnB w5 w.heap.size (.slice a5 n5 c5) (L ++ octets (x.length : Int))) := o5
          have U5 : Hid (Below w.heap.size w w5) := U4.out.grown g5 U4.out.size (fun i hi => (O4.out.lt i hi).1)
          have S5 : Hid (w.heap.size ≤ w5.heap.size) := U5.out.size
          have HB5 : Hid ((L ++ octets (x.length : Int)).length + (strOfNums x).size ≤ 140737488355328) := by have := L0.out; unfold Hid; rw [List.length_append, sz]; omega
          clear o5 g5 O4 U4 P4 S4 HB4
          go_wp2_with (at_builtin; refine wpList_append_str _ rfl _ _ rfl w.heap.size (.slice a5 n5 c5) (L ++ octets (x.length : Int)) rfl O5.out (strOfNums x) rfl HB5.out S5.out ?_)
          intro v6 w6 o6 g6
          obtain ⟨a6, n6, c6, rfl, N6⟩ := own_shape o6
          have O6 : Hid (OwnB w6 w.heap.size (.slice a6 n6 c6) (catO (numsJ j) ++ catT ((textsJ j).take (k + 1)))) := by
            unfold Hid
            rw [TK.out, ← List.append_assoc, ← List.append_assoc, HLL.out]
            rw [nx.out] at o6
            simpa only [List.append_assoc] using o6
          have U6 : Hid (Below w.heap.size w w6) := U5.out.grown g6 U5.out.size (fun i hi => (O5.out.lt i hi).1)
          clear o6 g6 O5 U5 S5 HB5 L0 olen TK nx
          go_wp2
          exact ⟨⟨k + 1, _, _, _, by omega, by go_num, rfl, O6, U6⟩, by simp [intOf]; omega⟩
        · obtain rfl : k = 3 := by omega
          have AL : ∀ y ∈ catO (numsJ j) ++ catT (textsJ j), 0 ≤ y ∧ y ≤ 255 := by
            intro y hy
            rcases List.mem_append.1 hy with hy | hy
            · exact (catO_len (numsJ j) NI.out).2 y hy
            · exact (catT_len (textsJ j) TI.out).2 y hy
          have OF : OwnB _ w.heap.size (.slice a m c) (catO (numsJ j) ++ catT (textsJ j)) := HO.out
          have cv := run_convert_octs _ _ _ (Octs.own OF AL)
          clear OF AL HO
          go_wp2
          go_ret2
          exact ⟨by rw [E.out, EJ.out]; rfl, HB.out⟩
end Go.Proofs.YtpjmieiajhhbaaaDoor

/- The program's Decode. -/
namespace Go.Proofs.YtpjmieiajhhbaaaDoor
open Go.RowKit
set_option linter.unusedVariables false
set_option linter.unusedSimpArgs false

set_option maxHeartbeats 1000000 in
theorem readEnd_any (N : Nat) (s : List Int × Int) (w0 w : World) (h : RR w0 w N s) :
    Calls Tryd.prog 33 #[.pointer (some ⟨N, 0, none⟩)] w fun e w' => e = .returned (.tuple #[]) ∧ Hid (∃ l a c y, RQp w0 w' N l a c y ∧ (y = 0 ↔ (s.2 = 0 ∧ s.1 = []))) ∧ Hid (w.grownBy w' (some N)) := by
  obtain ⟨l, a, c, y, hq, H⟩ := h
  by_cases hl : l = []
  · have K : Hid (y = 0 ↔ (s.2 = 0 ∧ s.1 = [])) := by
      rcases H with ⟨e1, e2, e3⟩ | ⟨e1, e2, _⟩
      · exact ⟨fun _ => ⟨e1, by rw [← e3]; exact hl⟩, fun _ => e2⟩
      · exact ⟨fun q => absurd q e2, fun q => absurd q.1 e1⟩
    subst hl
    have p0 : w.cell? ⟨N, 0, none⟩ = some (.slice a 0 c) := blk_cell hq.blk 0 _ rfl
    have HQ := hid hq
    clear H hq
    go_enter Tryd.func33, Tryd.ntmps33
    go_wp2_with fail
    go_end0
    exact ⟨rfl, ⟨_, _, _, _, HQ.out, K.out⟩, grown_refl _ _⟩
  · have hpos : (0 : Int) < (l.length : Int) := by
      have := List.length_pos_iff.2 hl
      omega
    have K : Hid (y = 0 ∧ ¬ (s.2 = 0 ∧ s.1 = [])) := by
      rcases H with ⟨e1, e2, e3⟩ | ⟨e1, e2, e3, _⟩
      · exact ⟨e2, fun q => hl (by rw [e3]; exact q.2)⟩
      · exact absurd e3 hl
    have p0 : w.cell? ⟨N, 0, none⟩ = some (.slice a l.length c) := blk_cell hq.blk 0 _ rfl
    have HQ := hid hq
    clear H hq hl
    go_enter Tryd.func33, Tryd.ntmps33
    go_wp2_with fail
    refine (refuse_any N l a c y 23 w0 w HQ.out).mono ?_
    rintro e w1 ⟨rfl, H2, G2⟩
    rw [if_pos K.out.1] at H2
    have R : Hid (∃ l a c y, RQp w0 w1 N l a c y ∧ (y = 0 ↔ (s.2 = 0 ∧ s.1 = []))) := ⟨_, _, _, _, H2.out, ⟨fun q => (by cases q), fun q => absurd q K.out.2⟩⟩
    clear H2 K
    go_wp2_with fail
    go_end0
    exact ⟨rfl, R.out, G2.out⟩
theorem numG_sub {most code : Int} {l : List Int} {n : Int} {r : List Int} (h : numG most code l = .ok (n, r)) : ∀ z ∈ r, z ∈ l := by
  unfold numG at h
  split at h
  · split at h
    · cases h
    · injection h with h
      injection h with h1 h2
      subst h2
      exact fun z hz => List.mem_of_mem_drop hz
  · cases h
theorem numS_sub (most code : Int) (s : List Int × Int) : ∀ z ∈ (numS most code s).2.1, z ∈ s.1 := by
  unfold numS
  split
  · cases e : numG most code s.1 with
    | error y => exact fun z hz => hz
    | ok v =>
      obtain ⟨n, r⟩ := v
      exact numG_sub e
  · exact fun z hz => hz
theorem txtS_sub (s : List Int × Int) : (∀ z ∈ (txtS s).2.1, z ∈ s.1) ∧ (∀ z ∈ (txtS s).1, z ∈ s.1) ∧ (txtS s).1.length ≤ 256 := by
  unfold txtS
  split
  · cases e : numG 256 5 s.1 with
    | error y => exact ⟨fun z hz => hz, fun z hz => (by cases hz), Nat.zero_le _⟩
    | ok v =>
      obtain ⟨n, r⟩ := v
      have sub := numG_sub e
      have hn : n ≤ 256 := by
        unfold numG at e
        split at e
        · split at e
          · cases e
          · injection e with e
            injection e with e1 e2
            omega
        · cases e
      dsimp only
      split
      · exact ⟨sub, fun z hz => (by cases hz), Nat.zero_le _⟩
      · refine ⟨fun z hz => sub z (List.mem_of_mem_drop hz), fun z hz => sub z (List.mem_of_mem_take hz), ?_⟩
        show (r.take n.toNat).length ≤ 256
        rw [List.length_take]
        omega
  · exact ⟨fun z hz => hz, fun z hz => (by cases hz), Nat.zero_le _⟩
theorem readJ_ok {X : List Int} (hX : TxtOk X) : (readJ X).ok := by
  have a1 : ∀ z ∈ (s1 X).2.1, z ∈ X := numS_sub _ _ _
  have a2 : ∀ z ∈ (s2 X).2.1, z ∈ X := fun z hz => a1 z (numS_sub _ _ _ z hz)
  have a3 : ∀ z ∈ (s3 X).2.1, z ∈ X := fun z hz => a2 z (numS_sub _ _ _ z hz)
  have a4 : ∀ z ∈ (s4 X).2.1, z ∈ X := fun z hz => a3 z (numS_sub _ _ _ z hz)
  have a5 : ∀ z ∈ (s5 X).2.1, z ∈ X := fun z hz => a4 z (numS_sub _ _ _ z hz)
  have a6 : ∀ z ∈ (s6 X).2.1, z ∈ X := fun z hz => a5 z (numS_sub _ _ _ z hz)
  have a7 : ∀ z ∈ (s7 X).2.1, z ∈ X := fun z hz => a6 z (numS_sub _ _ _ z hz)
  have a8 : ∀ z ∈ (s8 X).2.1, z ∈ X := fun z hz => a7 z ((txtS_sub _).1 z hz)
  have a9 : ∀ z ∈ (s9 X).2.1, z ∈ X := fun z hz => a8 z ((txtS_sub _).1 z hz)
  have T : ∀ (s : List Int × Int), (∀ z ∈ s.1, z ∈ X) → TxtOk (txtS s).1 := fun s hs => ⟨fun z hz => hX.1 z (hs z ((txtS_sub s).2.1 z hz)), by have := (txtS_sub s).2.2; omega⟩
  exact ⟨T _ a7, T _ a8, T _ a9⟩
/-- What the program's Decode answers: the page's job, and an error where the page has one. -/
def DecE (X : List Int) (e : Ending) : Prop := ∃ y, e = .returned (.tuple #[jobV (decP X).1, .int .i64 y]) ∧ (y = 0 ↔ (decP X).2 = 0)
set_option maxHeartbeats 4000000 in
set_option maxRecDepth 20000 in
theorem decodeE_any (X : List Int) (hX : TxtOk X) (w : World) (he : Env w) : Calls Tryd.prog 11 #[.string (strOfNums X)] w fun e w' => DecE X e ∧ Below w.heap.size w w' := by
  have HC : Hid (∀ w', Below w.heap.size w w' → Calls Tryd.prog 14 #[jobV (readJ X)] w' fun e w'' => e = .returned (.int .i64 (chkJ (readJ X))) ∧ Below w'.heap.size w' w'') := fun w' hb => checkE_job (readJ X) (readJ_ok hX) w' (he.up hb)
  have DP : Hid (decP X = if (s10 X).2.2 ≠ 0 then (jb0, (s10 X).2.2) else if (s10 X).2.1 ≠ [] then (jb0, 23) else if chkJ (readJ X) ≠ 0 then (jb0, 9) else (readJ X, 0)) := rfl
  have R0 := hid (blk_new w (.cells (jobC jb0) 27))
  have U0 := hid (up_alloc w (.cells (jobC jb0) 27))
  unfold jobC jb0 at R0 U0
  have lR : w.heap.size < (w.alloc (.cells (jobC jb0) 27)).heap.size := by simp
  obtain ⟨cap, w1, kb, k1, k2, hb1, hs1, HO⟩ := octs_conv2 (w.alloc (.cells (jobC jb0) 27)) X hX.1 hX.2
  unfold jobC jb0 at kb hb1 hs1 HO lR
  have sz : (w.alloc (.cells #[.int .i64 0, .string (strOfNums []), .string (strOfNums []), .string (strOfNums []), .int .i64 0, .int .i64 0, .int .i64 0, .int .i64 0, .int .i64 0, .int .i64 0] 27)).heap.size = w.heap.size + 1 := by simp
  rw [sz] at HO
  have BX : Hid (RQp w1 (w1.alloc (.cells #[.slice (some ⟨w.heap.size + 1, 0, none⟩) X.length cap, .int .i64 0] 73)) w1.heap.size X (some ⟨w.heap.size + 1, 0, none⟩) cap 0) := ⟨up_alloc w1 _, Nat.le_refl _, blk_new w1 _, HO, hX.2, .inr ⟨_, _, rfl, k1, k2⟩⟩
  clear sz
  have HR : Hid (RR w1 _ w1.heap.size (X, 0)) := ⟨_, _, _, _, BX.out, .inl ⟨rfl, rfl, rfl⟩⟩
  have R1 := hid (blk_up R0.out hb1)
  have U1 := hid (up_trans U0.out hb1)
  have hN : Hid (w1.heap.size = w.heap.size + 2) := by
    unfold Hid
    rw [hs1]
    simp
  clear BX HO k1 k2 hs1 lR hb1 R0 U0 he
  have S0 : strOfNums [] = { data := #[] } := rfl
  rw [S0] at kb R1
  clear S0
  go_enter Tryd.func11, Tryd.ntmps11
  go_wp2_with fail
  refine (job_any w1.heap.size X w1 _ HR.out).mono ?_
  rintro e w3 ⟨rfl, HR3⟩
  obtain ⟨K, hK⟩ : ∃ K, K = readJ X := ⟨_, rfl⟩
  rw [← hK] at HC DP ⊢
  rw [jobV_form]
  unfold jobC
  clear hK HR kb
  have B3 := hid (blk_new w3 (.cells (jobC K) 27))
  have HR4 := hid (HR3.out.upw (up_alloc w3 (.cells (jobC K) 27)))
  unfold jobC at B3 HR4
  have lB := HR3.out.there
  have nB : w1.heap.size ≠ w3.heap.size := by omega
  clear HR3
  go_wp2_with fail
  refine (readEnd_any w1.heap.size (s10 X).2 w1 _ HR4.out).mono ?_
  rintro e w4 ⟨rfl, HE, GE⟩
  obtain ⟨l, a, c, y, hq, hy⟩ := HE.out
  have R4 := hid (blk_up R1.out hq.up)
  have U4 := hid (up_trans U1.out hq.up)
  have B4 := hid (blk_grown B3.out GE.out (by simp; omega))
  have y4 := blk_cell hq.blk 1 _ rfl
  clear HE R1 U1 B3 GE
  by_cases c1 : y = 0
  rotate_left
  · have n1 : (y != 0) = true := by simpa using c1
    have E : Hid (∃ z, decP X = (jb0, z) ∧ (y = 0 ↔ z = 0)) := by
      by_cases d1 : (s10 X).2.2 ≠ 0
      · exact ⟨_, DP.out.trans (if_pos d1), ⟨fun q => absurd q c1, fun q => absurd q d1⟩⟩
      · have d1' : (s10 X).2.2 = 0 := Classical.not_not.1 d1
        have d2 : (s10 X).2.1 ≠ [] := fun q => c1 (hy.2 ⟨d1', q⟩)
        exact ⟨23, (DP.out.trans (if_neg d1)).trans (if_pos d2), ⟨fun q => absurd q c1, fun q => by cases q⟩⟩
    have EE : Hid (DecE X (.returned (.tuple #[.agg #[.int .i64 0, .string { data := #[] }, .string { data := #[] }, .string { data := #[] }, .int .i64 0, .int .i64 0, .int .i64 0, .int .i64 0, .int .i64 0, .int .i64 0], .int .i64 y]))) := by
      obtain ⟨z, e1, e2⟩ := E.out
      refine ⟨y, ?_, ?_⟩
      · rw [e1]
        rfl
      · rw [e1]
        exact e2
    clear E DP HC hy hq c1 B4 HR4
    have rf0 := blk_frozen R4.out 0
    have rf1 := blk_frozen R4.out 1
    have rf2 := blk_frozen R4.out 2
    have rf3 := blk_frozen R4.out 3
    have rf4 := blk_frozen R4.out 4
    have rf5 := blk_frozen R4.out 5
    have rf6 := blk_frozen R4.out 6
    have rf7 := blk_frozen R4.out 7
    have rf8 := blk_frozen R4.out 8
    have rf9 := blk_frozen R4.out 9
    have ry0 := blk_cell R4.out 0 _ rfl
    have ry1 := blk_cell R4.out 1 _ rfl
    have ry2 := blk_cell R4.out 2 _ rfl
    have ry3 := blk_cell R4.out 3 _ rfl
    have ry4 := blk_cell R4.out 4 _ rfl
    have ry5 := blk_cell R4.out 5 _ rfl
    have ry6 := blk_cell R4.out 6 _ rfl
    have ry7 := blk_cell R4.out 7 _ rfl
    have ry8 := blk_cell R4.out 8 _ rfl
    have ry9 := blk_cell R4.out 9 _ rfl
    have FB := hid (set10_blk R4.out (.int .i64 0) (.string { data := #[] }) (.string { data := #[] }) (.string { data := #[] }) (.int .i64 0) (.int .i64 0) (.int .i64 0) (.int .i64 0) (.int .i64 0) (.int .i64 0))
    have FG := hid (set10_grown w4 w.heap.size (.int .i64 0) (.string { data := #[] }) (.string { data := #[] }) (.string { data := #[] }) (.int .i64 0) (.int .i64 0) (.int .i64 0) (.int .i64 0) (.int .i64 0) (.int .i64 0))
    have hM := hN.out
    rw [hM] at y4 ⊢
    clear hM hN lB nB
    go_wp2_with fail
    go_region
    go_wp2_with fail
    refine bodyPost_ret (results_qob2 rfl _ _ rfl (blk_up FB.out (up_drewN _ 1))) rfl ?_
    exact ⟨EE.out, up_trans (U4.out.grown FG.out U4.out.size (fun k hk => by simp at hk; omega)) (up_drewN _ 1)⟩
  subst c1
  have d12 := hy.1 rfl
  have DP2 : Hid (decP X = if chkJ K ≠ 0 then (jb0, 9) else (K, 0)) := by
    unfold Hid
    rw [DP.out, if_neg (by rw [d12.1]; decide), if_neg (by rw [d12.2]; simp)]
  clear DP hy hq d12 HR4
  have c2 := chkJ_two K
  generalize chkJ K = C at *
  unfold jobV at HC
  have x0 := blk_cell B4.out 0 _ rfl
  have x1 := blk_cell B4.out 1 _ rfl
  have x2 := blk_cell B4.out 2 _ rfl
  have x3 := blk_cell B4.out 3 _ rfl
  have x4 := blk_cell B4.out 4 _ rfl
  have x5 := blk_cell B4.out 5 _ rfl
  have x6 := blk_cell B4.out 6 _ rfl
  have x7 := blk_cell B4.out 7 _ rfl
  have x8 := blk_cell B4.out 8 _ rfl
  have x9 := blk_cell B4.out 9 _ rfl
  go_wp2_with fail
  refine (HC.out _ U4.out).mono ?_
  rintro e w5 ⟨rfl, hb5⟩
  have R5 := hid (blk_up R4.out hb5)
  have B5 := hid (blk_up B4.out hb5)
  have U5 := hid (up_trans U4.out hb5)
  clear hb5 R4 B4 U4 HC x0 x1 x2 x3 x4 x5 x6 x7 x8 x9 y4
  rcases c2 with rfl | rfl
  rotate_left
  · have E : Hid (decP X = (jb0, 9)) := DP2.out.trans (if_pos (by decide))
    have EE : Hid (DecE X (.returned (.tuple #[.agg #[.int .i64 0, .string { data := #[] }, .string { data := #[] }, .string { data := #[] }, .int .i64 0, .int .i64 0, .int .i64 0, .int .i64 0, .int .i64 0, .int .i64 0], .int .i64 9]))) := by
      refine ⟨9, ?_, ?_⟩
      · rw [E.out]
        rfl
      · rw [E.out]
    clear E DP2
    have rf0 := blk_frozen R5.out 0
    have rf1 := blk_frozen R5.out 1
    have rf2 := blk_frozen R5.out 2
    have rf3 := blk_frozen R5.out 3
    have rf4 := blk_frozen R5.out 4
    have rf5 := blk_frozen R5.out 5
    have rf6 := blk_frozen R5.out 6
    have rf7 := blk_frozen R5.out 7
    have rf8 := blk_frozen R5.out 8
    have rf9 := blk_frozen R5.out 9
    have ry0 := blk_cell R5.out 0 _ rfl
    have ry1 := blk_cell R5.out 1 _ rfl
    have ry2 := blk_cell R5.out 2 _ rfl
    have ry3 := blk_cell R5.out 3 _ rfl
    have ry4 := blk_cell R5.out 4 _ rfl
    have ry5 := blk_cell R5.out 5 _ rfl
    have ry6 := blk_cell R5.out 6 _ rfl
    have ry7 := blk_cell R5.out 7 _ rfl
    have ry8 := blk_cell R5.out 8 _ rfl
    have ry9 := blk_cell R5.out 9 _ rfl
    have FB := hid (set10_blk R5.out (.int .i64 0) (.string { data := #[] }) (.string { data := #[] }) (.string { data := #[] }) (.int .i64 0) (.int .i64 0) (.int .i64 0) (.int .i64 0) (.int .i64 0) (.int .i64 0))
    have FG := hid (set10_grown w5 w.heap.size (.int .i64 0) (.string { data := #[] }) (.string { data := #[] }) (.string { data := #[] }) (.int .i64 0) (.int .i64 0) (.int .i64 0) (.int .i64 0) (.int .i64 0) (.int .i64 0))
    go_wp2_with fail
    refine bodyPost_ret (results_qob2 rfl _ _ rfl FB.out) rfl ?_
    exact ⟨EE.out, U5.out.grown FG.out U5.out.size (fun k hk => by simp at hk; omega)⟩
  have E : Hid (decP X = (K, 0)) := DP2.out.trans (if_neg (by decide))
  have EE : Hid (DecE X (.returned (.tuple #[.agg #[.int .i64 K.id, .string (strOfNums K.na), .string (strOfNums K.ru), .string (strOfNums K.pa), .int .i64 K.st, .int .i64 K.du, .int .i64 K.tr, .int .i64 K.wk, .int .i64 K.tk, .int .i64 K.un], .int .i64 0]))) := by
    refine ⟨0, ?_, ?_⟩
    · rw [E.out]
      rfl
    · rw [E.out]
  clear E DP2
  have x0 := blk_cell B5.out 0 _ rfl
  have x1 := blk_cell B5.out 1 _ rfl
  have x2 := blk_cell B5.out 2 _ rfl
  have x3 := blk_cell B5.out 3 _ rfl
  have x4 := blk_cell B5.out 4 _ rfl
  have x5 := blk_cell B5.out 5 _ rfl
  have x6 := blk_cell B5.out 6 _ rfl
  have x7 := blk_cell B5.out 7 _ rfl
  have x8 := blk_cell B5.out 8 _ rfl
  have x9 := blk_cell B5.out 9 _ rfl
  have rf0 := blk_frozen R5.out 0
  have rf1 := blk_frozen R5.out 1
  have rf2 := blk_frozen R5.out 2
  have rf3 := blk_frozen R5.out 3
  have rf4 := blk_frozen R5.out 4
  have rf5 := blk_frozen R5.out 5
  have rf6 := blk_frozen R5.out 6
  have rf7 := blk_frozen R5.out 7
  have rf8 := blk_frozen R5.out 8
  have rf9 := blk_frozen R5.out 9
  have ry0 := blk_cell R5.out 0 _ rfl
  have ry1 := blk_cell R5.out 1 _ rfl
  have ry2 := blk_cell R5.out 2 _ rfl
  have ry3 := blk_cell R5.out 3 _ rfl
  have ry4 := blk_cell R5.out 4 _ rfl
  have ry5 := blk_cell R5.out 5 _ rfl
  have ry6 := blk_cell R5.out 6 _ rfl
  have ry7 := blk_cell R5.out 7 _ rfl
  have ry8 := blk_cell R5.out 8 _ rfl
  have ry9 := blk_cell R5.out 9 _ rfl
  have FB := hid (set10_blk R5.out (.int .i64 K.id) (.string (strOfNums K.na)) (.string (strOfNums K.ru)) (.string (strOfNums K.pa)) (.int .i64 K.st) (.int .i64 K.du) (.int .i64 K.tr) (.int .i64 K.wk) (.int .i64 K.tk) (.int .i64 K.un))
  have FG := hid (set10_grown w5 w.heap.size (.int .i64 K.id) (.string (strOfNums K.na)) (.string (strOfNums K.ru)) (.string (strOfNums K.pa)) (.int .i64 K.st) (.int .i64 K.du) (.int .i64 K.tr) (.int .i64 K.wk) (.int .i64 K.tk) (.int .i64 K.un))
  go_wp2_with fail
  refine bodyPost_ret (results_qob2 rfl _ _ rfl FB.out) rfl ?_
  exact ⟨EE.out, U5.out.grown FG.out U5.out.size (fun k hk => by simp at hk; omega)⟩
end Go.Proofs.YtpjmieiajhhbaaaDoor
