/- PickBottom, walked. -/
import Derived.Test.YtjdibpmckeifhaaJAlive
import Derived.Test.YtjdibpmckeifhaaLOf
import Derived.Test.YtjdibpmckeifhaaRChk
import Derived.Test.YtjdibpmckeifhaaKWhM
namespace Go.Proofs.Ytjdibpmckeifhaa
open Go.RowKit
set_option linter.unusedVariables false
set_option linter.unusedSimpArgs false

theorem two0 (w : World) (o p : Obj) : (((w.alloc o).alloc p).drew).heap[w.heap.size]? = some o := blk_up (w := w.alloc o) (blk_new w o) (up_dr (up_alloc _ _))
theorem two1 (w : World) (o p : Obj) : (((w.alloc o).alloc p).drew).heap[w.heap.size + 1]? = some p := by
  have := blk_new (w.alloc o) p
  rw [show (w.alloc o).heap.size = w.heap.size + 1 by simp] at this
  exact this
theorem two2 (w : World) (o p : Obj) : Below w.heap.size w (((w.alloc o).alloc p).drew) := up_dr (up_al (up_alloc _ _) _)
theorem in_dec (l : List Int) (n : Int) (v : Value) (w : World) (hv : IntsR w v l) {q : Bool} (hq : decide (n ∈ l) = q) : Calls Try.prog 21 #[v, .int .i64 n] w fun e w' => e = .returned (.bool q) ∧ w' = w := by
  subst hq
  exact in_any l n v w hv
theorem bot_facts {ts : List Me} {seq next lev : Int} {r : List Int} {p : PlanM} (h : errV ts seq next = 0) (hf : fullM ts = lev :: r) (hp : planM ts lev = some p) (hb : p.bot = true) {a b : Me} (ha : a ∈ ts) (hbt : b ∈ ts) (hi : a.id ∈ (p.top ++ p.below).map (·.id)) (hl : lev + 1 < b.lvl) (h1 : leM a.low b.high = true) (h2 : leM b.low a.high = true) : False := by
  have hc := chk_all h
  obtain ⟨hn, ht, hbl⟩ := nodup_plan hc hp
  have hsub : ∀ m ∈ p.top ++ p.below, m ∈ ts := fun m hm => by
    rcases List.mem_append.1 hm with q | q
    · exact (ht m q).1
    · exact (hbl m q).1
  have q := (id_in hc hsub ha).1 hi
  have q2 := chk_nums h hbt
  refine plan_bottom hp hb (List.mem_append.1 q) hbt ?_ (chk_le h ha) ⟨h1, h2⟩
  rcases full_lev hf with e | e | e <;> omega
set_option maxHeartbeats 4000000 in
set_option maxRecDepth 100000 in
theorem bottom_walk (ts : List Me) (seq next : Int) (va : Option Addr) (vn vc : Nat) (w : World) (hv : MetsR w (.slice va vn vc) ts) (hl : ts.length ≤ 4000000000000) :
    Calls Try.prog 5 #[.agg #[.slice va vn vc, .int .i64 seq, .int .i64 next]] w fun e w' => e = .returned (.bool true) ∧ Below w.heap.size w w' := by
  obtain ⟨a', c', e', hc1, hc2⟩ := hv.len
  simp only [Value.slice.injEq] at e'
  obtain ⟨rfl, rfl, rfl⟩ := e'
  have HV : Hid (MetsR w (.slice va ts.length vc) ts) := hv
  have HL : Hid (ts.length ≤ 4000000000000) := hl
  clear hv hl hc1 hc2
  obtain ⟨w0, hw0⟩ : ∃ w0, w0 = w.alloc (.cells #[.slice va ts.length vc, .int .i64 seq, .int .i64 next] 24) := ⟨_, rfl⟩
  have HW0 : Hid (w.alloc (.cells #[.slice va ts.length vc, .int .i64 seq, .int .i64 next] 24) = w0) := hw0.symm
  have U0 : Hid (Below w.heap.size w w0) := by rw [hw0]; exact up_alloc _ _
  have B0 : Hid (w0.heap[w.heap.size]? = some (.cells #[.slice va ts.length vc, .int .i64 seq, .int .i64 next] 24)) := by rw [hw0]; exact blk_new _ _
  clear hw0
  have x0 := blk_cell B0.out 0 _ rfl
  have x1 := blk_cell B0.out 1 _ rfl
  have x2 := blk_cell B0.out 2 _ rfl
  have HAL := hid (alive_any w0)
  generalize hNB : w.heap.size = NB at *
  have HNB := hid hNB
  clear hNB
  go_enter Try.func5, Try.ntmps5
  go_upto_region 1 with fail
  rw [HW0.out, HNB.out]
  clear HW0
  go_wp2_with fail
  refine HAL.out.mono ?_
  rintro e w1 ⟨rfl, u1⟩
  have U1 : Hid (Below NB w w1) := U0.out.trans (u1.out.mono (Nat.le_of_lt (blk_lt B0.out)))
  have B1 := hid (blk_up B0.out u1.out)
  have HV1 : Hid (MetsR w1 (.slice va ts.length vc) ts) := HV.out.up (by rw [HNB.out]; exact U1.out)
  clear u1 HAL x0 x1 x2 U0 B0
  clear w0
  have x0 := blk_cell B1.out 0 _ rfl
  have x1 := blk_cell B1.out 1 _ rfl
  have x2 := blk_cell B1.out 2 _ rfl
  have HOF := hid (of_any ts seq next va ts.length vc w1 HV1.out HL.out)
  go_wp2_with fail
  refine HOF.out.mono ?_
  rintro e w2 ⟨oa, on, oc, rfl, HO2, u2⟩
  have U2 : Hid (Below NB w w2) := U1.out.trans (u2.out.mono (Nat.le_of_lt (blk_lt B1.out)))
  have B2 := hid (blk_up B1.out u2.out)
  have HV2 := hid (HV1.out.up u2.out)
  have HM2 : Hid (MetsR w2 (.slice oa on oc) ts) := HO2.out.read
  clear u2 HOF x0 x1 x2 U1 B1 HO2 HV1
  clear w1
  have HCC : Hid (Calls Try.prog 11 #[.agg #[.slice oa on oc, .int .i64 seq, .int .i64 next]] w2 (ChoE w2 (choM ts seq next))) := choose_any ts seq next oa on oc w2 HM2.out
  rcases errV_cases ts seq next with hc | hc
  case inr =>
    have HC9 := hid hc
    rw [cho_err hc] at HCC
    replace HCC : Hid (Calls Try.prog 11 #[.agg #[.slice oa on oc, .int .i64 seq, .int .i64 next]] w2 fun e w' => ∃ a n cc, e = .returned (.tuple #[.agg #[.int .i64 0, .slice a n cc, .bool false], .bool false, .int .i64 9]) ∧ Hid (n = 0) ∧ Hid (IntsR w' (.slice a n cc) []) ∧ Hid (Below w2.heap.size w2 w')) := HCC.out
    clear hc
    go_wp2_with fail
    refine HCC.out.mono ?_
    rintro e w3 ⟨la, ln, lc, rfl, HN, HI, u3⟩
    obtain rfl : ln = 0 := HN.out
    have U3 : Hid (Below NB w w3) := U2.out.trans (u3.out.mono (Nat.le_of_lt (blk_lt B2.out)))
    have B3 := hid (blk_up B2.out u3.out)
    have HV3 := hid (HV2.out.up u3.out)
    clear u3 U2 B2 HV2 HM2
    have x0 := blk_cell B3.out 0 _ rfl
    have x1 := blk_cell B3.out 1 _ rfl
    have x2 := blk_cell B3.out 2 _ rfl
    have U4 : Hid (Below w3.heap.size w3 (w3.alloc (.cells #[.int .i64 0, .slice la 0 lc, .bool false] 36))) := up_alloc _ _
    have P4 : Hid ((w3.alloc (.cells #[.int .i64 0, .slice la 0 lc, .bool false] 36)).heap[w3.heap.size]? = some (.cells #[.int .i64 0, .slice la 0 lc, .bool false] 36)) := blk_new _ _
    obtain ⟨w4, hw4⟩ : ∃ w4, w4 = w3.alloc (.cells #[.int .i64 0, .slice la 0 lc, .bool false] 36) := ⟨_, rfl⟩
    have HW4 : Hid (w3.alloc (.cells #[.int .i64 0, .slice la 0 lc, .bool false] 36) = w4) := hw4.symm
    rw [← hw4] at U4 P4
    clear hw4 HCC
    go_upto_region 4 with fail
    rw [HW4.out]
    clear HW4 x0 x1 x2
    have B4 := hid (blk_up B3.out U4.out)
    have HV4 := hid (HV3.out.up U4.out)
    have UW4 : Hid (Below NB w w4) := U3.out.trans (U4.out.mono (Nat.le_of_lt (blk_lt B3.out)))
    generalize w3.heap.size = NP at *
    clear U4 U3 B3 HV3 HI
    have p0 := blk_cell P4.out 0 _ rfl
    have p1 := blk_cell P4.out 1 _ rfl
    have p2 := blk_cell P4.out 2 _ rfl
    have x0 := blk_cell B4.out 0 _ rfl
    have x1 := blk_cell B4.out 1 _ rfl
    have x2 := blk_cell B4.out 2 _ rfl
    go_wp2_with fail
    refine (num_any _ _).mono ?_
    rintro e w5 ⟨rfl, rfl⟩
    go_wp2_with fail
    refine (num_any _ _).mono ?_
    rintro e w6 ⟨rfl, rfl⟩
    go_wp2_with fail
    go_ret
    exact ⟨rfl, UW4.out⟩
  have HC0 := hid hc
  cases hf : fullM ts with
  | nil =>
    rw [cho_none hc hf] at HCC
    replace HCC : Hid (Calls Try.prog 11 #[.agg #[.slice oa on oc, .int .i64 seq, .int .i64 next]] w2 fun e w' => ∃ a n cc, e = .returned (.tuple #[.agg #[.int .i64 0, .slice a n cc, .bool false], .bool false, .int .i64 0]) ∧ Hid (n = 0) ∧ Hid (IntsR w' (.slice a n cc) []) ∧ Hid (Below w2.heap.size w2 w')) := HCC.out
    clear hc hf
    go_wp2_with fail
    refine HCC.out.mono ?_
    rintro e w3 ⟨la, ln, lc, rfl, HN, HI, u3⟩
    obtain rfl : ln = 0 := HN.out
    have U3 : Hid (Below NB w w3) := U2.out.trans (u3.out.mono (Nat.le_of_lt (blk_lt B2.out)))
    have B3 := hid (blk_up B2.out u3.out)
    have HV3 := hid (HV2.out.up u3.out)
    clear u3 U2 B2 HV2 HM2
    have x0 := blk_cell B3.out 0 _ rfl
    have x1 := blk_cell B3.out 1 _ rfl
    have x2 := blk_cell B3.out 2 _ rfl
    have U4 : Hid (Below w3.heap.size w3 (w3.alloc (.cells #[.int .i64 0, .slice la 0 lc, .bool false] 36))) := up_alloc _ _
    have P4 : Hid ((w3.alloc (.cells #[.int .i64 0, .slice la 0 lc, .bool false] 36)).heap[w3.heap.size]? = some (.cells #[.int .i64 0, .slice la 0 lc, .bool false] 36)) := blk_new _ _
    obtain ⟨w4, hw4⟩ : ∃ w4, w4 = w3.alloc (.cells #[.int .i64 0, .slice la 0 lc, .bool false] 36) := ⟨_, rfl⟩
    have HW4 : Hid (w3.alloc (.cells #[.int .i64 0, .slice la 0 lc, .bool false] 36) = w4) := hw4.symm
    rw [← hw4] at U4 P4
    clear hw4 HCC
    go_upto_region 4 with fail
    rw [HW4.out]
    clear HW4 x0 x1 x2
    have B4 := hid (blk_up B3.out U4.out)
    have HV4 := hid (HV3.out.up U4.out)
    have UW4 : Hid (Below NB w w4) := U3.out.trans (U4.out.mono (Nat.le_of_lt (blk_lt B3.out)))
    generalize w3.heap.size = NP at *
    clear U4 U3 B3 HV3 HI
    have p0 := blk_cell P4.out 0 _ rfl
    have p1 := blk_cell P4.out 1 _ rfl
    have p2 := blk_cell P4.out 2 _ rfl
    have x0 := blk_cell B4.out 0 _ rfl
    have x1 := blk_cell B4.out 1 _ rfl
    have x2 := blk_cell B4.out 2 _ rfl
    go_wp2_with fail
    refine (num_any _ _).mono ?_
    rintro e w5 ⟨rfl, rfl⟩
    go_wp2_with fail
    refine (num_any _ _).mono ?_
    rintro e w6 ⟨rfl, rfl⟩
    go_wp2_with fail
    go_ret
    exact ⟨rfl, UW4.out⟩
  | cons lev rest =>
    obtain ⟨p, hp⟩ := plan_some hf
    have HWF := hid (whole_facts hc hf hp)
    rw [cho_some hc hf hp] at HCC
    have HPL := hid hp
    have HFM := hid hf
    clear hc hf hp
    obtain ⟨ids, hids⟩ : ∃ ids, ids = (p.top ++ p.below).map (·.id) := ⟨_, rfl⟩
    have HIDS := hid hids
    rw [← hids] at HCC HWF
    clear hids
    replace HCC : Hid (Calls Try.prog 11 #[.agg #[.slice oa on oc, .int .i64 seq, .int .i64 next]] w2 fun e w' => ∃ a n cc, e = .returned (.tuple #[.agg #[.int .i64 lev, .slice a n cc, .bool p.bot], .bool true, .int .i64 0]) ∧ Hid (n = ids.length) ∧ Hid (IntsR w' (.slice a n cc) ids) ∧ Hid (Below w2.heap.size w2 w')) := HCC.out
    go_wp2_with fail
    refine HCC.out.mono ?_
    rintro e w3 ⟨la, ln, lc, rfl, HN, HI, u3⟩
    have U3 : Hid (Below NB w w3) := U2.out.trans (u3.out.mono (Nat.le_of_lt (blk_lt B2.out)))
    have B3 := hid (blk_up B2.out u3.out)
    have HV3 := hid (HV2.out.up u3.out)
    clear u3 U2 B2 HV2 HM2
    have x0 := blk_cell B3.out 0 _ rfl
    have x1 := blk_cell B3.out 1 _ rfl
    have x2 := blk_cell B3.out 2 _ rfl
    have hL : ts.length ≤ 256 := chk_len HC0.out
    have hlv1 := HWF.out.lv.1
    have hlv2 := HWF.out.lv.2
    have U4 : Hid (Below w3.heap.size w3 (w3.alloc (.cells #[.int .i64 lev, .slice la ln lc, .bool p.bot] 36))) := up_alloc _ _
    have P4 : Hid ((w3.alloc (.cells #[.int .i64 lev, .slice la ln lc, .bool p.bot] 36)).heap[w3.heap.size]? = some (.cells #[.int .i64 lev, .slice la ln lc, .bool p.bot] 36)) := blk_new _ _
    obtain ⟨w4, hw4⟩ : ∃ w4, w4 = w3.alloc (.cells #[.int .i64 lev, .slice la ln lc, .bool p.bot] 36) := ⟨_, rfl⟩
    have HW4 : Hid (w3.alloc (.cells #[.int .i64 lev, .slice la ln lc, .bool p.bot] 36) = w4) := hw4.symm
    rw [← hw4] at U4 P4
    clear hw4 HCC
    go_upto_region 4 with fail
    rw [HW4.out]
    clear HW4 x0 x1 x2
    have B4 := hid (blk_up B3.out U4.out)
    have HV4 := hid (HV3.out.up U4.out)
    have HI4 := hid (HI.out.up U4.out)
    have UW4 : Hid (Below NB w w4) := U3.out.trans (U4.out.mono (Nat.le_of_lt (blk_lt B3.out)))
    generalize w3.heap.size = NP at *
    clear U4 U3 B3 HV3 HI
    have p2 := blk_cell P4.out 2 _ rfl
    cases hbt : p.bot with
    | false =>
      rw [hbt] at p2
      go_wp2_with fail
      refine (num_any _ _).mono ?_
      rintro e w5 ⟨rfl, rfl⟩
      go_wp2_with fail
      refine (num_any _ _).mono ?_
      rintro e w6 ⟨rfl, rfl⟩
      go_wp2_with fail
      go_ret
      exact ⟨rfl, UW4.out⟩
    | true =>
    have HBF : Hid (∀ a ∈ ts, ∀ b ∈ ts, a.id ∈ ids → lev + 1 < b.lvl → leM a.low b.high = true → leM b.low a.high = true → False) := fun a ha b hb hi hl h1 h2 => bot_facts HC0.out HFM.out HPL.out hbt ha hb (by rw [← HIDS.out]; exact hi) hl h1 h2
    rw [hbt] at p2 P4
    clear hbt
    go_wp2_with fail
    refine (num_any _ _).mono ?_
    rintro e w5 ⟨rfl, rfl⟩
    go_wp2_with fail
    clear p2
    go_loopw [6] (fun si wr => ∃ (i : Nat), i ≤ ts.length ∧ si = .int .i64 i ∧ Hid (Below w5.heap.size w5 wr)) (fun si _ => ts.length - (intOf si).toNat)
    case atStart => exact ⟨0, Nat.zero_le _, rfl, Below.refl _ _⟩
    case round =>
      obtain ⟨i, hi, rfl, HBi⟩ := hrel
      have BR := hid (blk_up B4.out HBi.out)
      have x0 := blk_cell BR.out 0 _ rfl
      by_cases hil : i < ts.length
      · have hil' : (i : Int) < (ts.length : Int) := by omega
        go_wp2_with fail
        clear x0 BR
        go_loopw [7] (fun sk wr => ∃ (k : Nat), k ≤ ts.length ∧ sk = .int .i64 k ∧ Hid (Below w5.heap.size w5 wr)) (fun sk _ => ts.length - (intOf sk).toNat)
        case atStart => exact ⟨0, Nat.zero_le _, rfl, HBi⟩
        case round =>
          clear HBi
          obtain ⟨k, hk, rfl, HBk⟩ := hrel
          have BRk := hid (blk_up B4.out HBk.out)
          have p0 := blk_cell BRk.out 0 _ rfl
          by_cases hkl : k < ts.length
          · have hkl' : (k : Int) < (ts.length : Int) := by omega
            obtain ⟨b, off, cap, x, e, hx, x0, x1, x2, x3, x4⟩ := (HV4.out.up HBk.out).at i hil
            obtain ⟨b', off', cap', y, e', hy, y0, y1, y2, y3, y4⟩ := (HV4.out.up HBk.out).at k hkl
            simp only [Value.slice.injEq] at e
            obtain ⟨rfl, _, rfl⟩ := e
            simp only [Value.slice.injEq, Option.some.injEq, Addr.mk.injEq] at e'
            obtain ⟨⟨rfl, rfl, _⟩, _, rfl⟩ := e'
            have HMX := hid (List.mem_of_getElem? hx)
            have HMY := hid (List.mem_of_getElem? hy)
            clear hx hy
            have KE : Hid (∀ W, Below wr.heap.size wr W → W.cell? ⟨NB, 0, none⟩ = some (.slice (some ⟨b, off, none⟩) ts.length vc) ∧ W.cell? ⟨b, off + i * 5, none⟩ = some (.int .i64 x.id) ∧ W.cell? ⟨b, off + i * 5 + 1, none⟩ = some (.int .i64 x.lvl) ∧ W.cell? ⟨b, off + i * 5 + 2, none⟩ = some (.int .i64 x.cnt) ∧ W.cell? ⟨b, off + i * 5 + 3, none⟩ = some (.string x.low) ∧ W.cell? ⟨b, off + i * 5 + 4, none⟩ = some (.string x.high) ∧ W.cell? ⟨b, off + k * 5, none⟩ = some (.int .i64 y.id) ∧ W.cell? ⟨b, off + k * 5 + 1, none⟩ = some (.int .i64 y.lvl) ∧ W.cell? ⟨b, off + k * 5 + 2, none⟩ = some (.int .i64 y.cnt) ∧ W.cell? ⟨b, off + k * 5 + 3, none⟩ = some (.string y.low) ∧ W.cell? ⟨b, off + k * 5 + 4, none⟩ = some (.string y.high)) := by
              intro W h
              have z0 := h.cell (World.block_lt_of_cell? wr _ p0)
              have z1 := h.cell (World.block_lt_of_cell? wr _ x0)
              have z2 := h.cell (World.block_lt_of_cell? wr _ x1)
              have z3 := h.cell (World.block_lt_of_cell? wr _ x2)
              have z4 := h.cell (World.block_lt_of_cell? wr _ x3)
              have z5 := h.cell (World.block_lt_of_cell? wr _ x4)
              have z6 := h.cell (World.block_lt_of_cell? wr _ y0)
              have z7 := h.cell (World.block_lt_of_cell? wr _ y1)
              have z8 := h.cell (World.block_lt_of_cell? wr _ y2)
              have z9 := h.cell (World.block_lt_of_cell? wr _ y3)
              have za := h.cell (World.block_lt_of_cell? wr _ y4)
              exact ⟨z0.trans p0, z1.trans x0, z2.trans x1, z3.trans x2, z4.trans x3, z5.trans x4, z6.trans y0, z7.trans y1, z8.trans y2, z9.trans y3, za.trans y4⟩
            go_wp2_with fail
            go_cut [8, 9] from 52 to 61 (fun s9 s10 wx => ∃ Na Nb : Nat, s9 = .pointer (some ⟨Na, 0, none⟩) ∧ s10 = .pointer (some ⟨Nb, 0, none⟩) ∧ Hid (wx.heap[Na]? = some (meObj x)) ∧ Hid (wx.heap[Nb]? = some (meObj y)) ∧ Hid (Below wr.heap.size wr wx))
            case first =>
              go_region_held3 (fun w' => w'.cell? ⟨NB, 0, none⟩ = some (.slice (some ⟨b, off, none⟩) ts.length vc) ∧ w'.cell? ⟨b, off + i * 5, none⟩ = some (.int .i64 x.id) ∧ w'.cell? ⟨b, off + i * 5 + 1, none⟩ = some (.int .i64 x.lvl) ∧ w'.cell? ⟨b, off + i * 5 + 2, none⟩ = some (.int .i64 x.cnt) ∧ w'.cell? ⟨b, off + i * 5 + 3, none⟩ = some (.string x.low) ∧ w'.cell? ⟨b, off + i * 5 + 4, none⟩ = some (.string x.high) ∧ w'.cell? ⟨b, off + k * 5, none⟩ = some (.int .i64 y.id) ∧ w'.cell? ⟨b, off + k * 5 + 1, none⟩ = some (.int .i64 y.lvl) ∧ w'.cell? ⟨b, off + k * 5 + 2, none⟩ = some (.int .i64 y.cnt) ∧ w'.cell? ⟨b, off + k * 5 + 3, none⟩ = some (.string y.low) ∧ w'.cell? ⟨b, off + k * 5 + 4, none⟩ = some (.string y.high)) (first | with_reducible exact ⟨p0, x0, x1, x2, x3, x4, y0, y1, y2, y3, y4⟩ | with_reducible exact KE.out _ (up_dr (Below.refl _ _)) | with_reducible exact KE.out _ (up_alloc _ _) | with_reducible exact KE.out _ (up_al (up_alloc _ _) _) | with_reducible exact KE.out _ (up_dr (up_alloc _ _)) | with_reducible exact KE.out _ (up_dr (up_al (up_alloc _ _) _))) (fail)
              all_goals
                go_wp2_with fail
                go_meet
                case rel =>
                  first
                    | exact ⟨wr.heap.size, wr.heap.size + 1, rfl, rfl, two0 wr (meObj x) (meObj y), two1 wr (meObj x) (meObj y), two2 wr (meObj x) (meObj y)⟩
                    | exact ⟨wr.heap.size + 1, wr.heap.size, rfl, rfl, two1 wr (meObj y) (meObj x), two0 wr (meObj y) (meObj x), two2 wr (meObj y) (meObj x)⟩
            case rest =>
              obtain ⟨Na, Nb, rfl, rfl, HBa, HBb, UX⟩ := hcut
              have HBw := hid (up_trans HBk.out UX.out)
              clear p0 x0 x1 x2 x3 x4 y0 y1 y2 y3 y4 KE UX HBk BRk
              have m0 := blk_cell HBa.out 0 _ rfl
              have m3 := blk_cell HBa.out 3 _ rfl
              have m4 := blk_cell HBa.out 4 _ rfl
              have n1 := blk_cell HBb.out 1 _ rfl
              have n3 := blk_cell HBb.out 3 _ rfl
              have n4 := blk_cell HBb.out 4 _ rfl
              have PX := hid (blk_up P4.out HBw.out)
              have p0 := blk_cell PX.out 0 _ rfl
              have p1 := blk_cell PX.out 1 _ rfl
              have HIW := hid (HI4.out.up HBw.out)
              cases g1 : decide (x.id ∈ ids) with
              | false =>
                have HI2 := hid (in_dec ids x.id (.slice la ln lc) _ HIW.out g1)
                clear g1
                go_wp2_with fail
                refine HI2.out.mono ?_
                rintro e w9 ⟨rfl, rfl⟩
                go_wp2_with fail
                exact ⟨⟨k + 1, by omega, by go_num, HBw⟩, by simp [intOf]; omega⟩
              | true =>
                have HI2 := hid (in_dec ids x.id (.slice la ln lc) _ HIW.out g1)
                have HG1 := hid (of_decide_eq_true g1)
                clear g1
                by_cases g2 : lev + 1 < y.lvl
                case neg =>
                  go_wp2_with fail
                  refine HI2.out.mono ?_
                  rintro e w9 ⟨rfl, rfl⟩
                  go_wp2_with fail
                  exact ⟨⟨k + 1, by omega, by go_num, HBw⟩, by simp [intOf]; omega⟩
                cases g3 : (Op.bytesLess x.low.toList y.high.toList || (x.low.toList == y.high.toList)) with
                | false =>
                  go_wp2_with fail
                  refine HI2.out.mono ?_
                  rintro e w9 ⟨rfl, rfl⟩
                  go_wp2_with fail
                  exact ⟨⟨k + 1, by omega, by go_num, HBw⟩, by simp [intOf]; omega⟩
                | true =>
                  cases g4 : (Op.bytesLess y.low.toList x.high.toList || (y.low.toList == x.high.toList)) with
                  | false =>
                    go_wp2_with fail
                    refine HI2.out.mono ?_
                    rintro e w9 ⟨rfl, rfl⟩
                    go_wp2_with fail
                    exact ⟨⟨k + 1, by omega, by go_num, HBw⟩, by simp [intOf]; omega⟩
                  | true => exact absurd (HBF.out x HMX.out y HMY.out HG1.out g2 g3 g4) id
          · have hkl' : ¬ (k : Int) < (ts.length : Int) := by omega
            go_wp2_with fail
            exact ⟨⟨i + 1, by omega, by go_num, HBk⟩, by simp [intOf]; omega⟩
      · have hil' : ¬ (i : Int) < (ts.length : Int) := by omega
        go_wp2_with fail
        go_ret
        exact ⟨rfl, UW4.out.trans (HBi.out.mono (Nat.le_of_lt (blk_lt B4.out)))⟩
end Go.Proofs.Ytjdibpmckeifhaa
