/- The law WalBack, walked: a batch comes back from its octets; what is read is built again of what was read. -/
import Derived.Test.YtgphkddcfcmaiaaWDec3
import Derived.Test.YtgphkddcfcmaiaaWSame
namespace Go.Proofs.Ytgphkddcfcmaiaa
open Go.RowKit SumPlain
set_option linter.unusedVariables false

set_option maxHeartbeats 2000000 in
set_option maxRecDepth 100000 in
theorem back_walk (s : Int) (cs : List Chg) (a : Option Addr) (c : Nat) (lx : List Int) (ax : Option Addr) (cx : Nat) (w : World) (hv : ChgsR w (.slice a cs.length c) cs) (hl : cs.length * 40 ≤ 140737488355328) (hx : Octs w (.slice ax lx.length cx) lx) :
    Calls Try.prog 5 #[.agg #[.int .i64 s, .slice a cs.length c], .slice ax lx.length cx] w fun e w' => e = .returned (.bool true) ∧ Below w.heap.size w w' := by
  have HV : Hid (ChgsR w (.slice a cs.length c) cs) := hv
  have HX : Hid (Octs w (.slice ax lx.length cx) lx) := hx
  clear hv hx
  go_enter Try.func5, Try.ntmps5
  go_wp2_with fail
  refine (alive_any _).mono ?_
  rintro e w1 ⟨rfl, b1⟩
  have D1 : Hid (w1.heap[w.heap.size]? = some (.cells #[.int .i64 s, .slice a cs.length c] 24)) := blk_up (blk_new w _) b1
  have U1 : Hid (Below w.heap.size w w1) := up_trans (up_alloc w _) b1
  clear b1
  have p0 : w1.cell? ⟨w.heap.size, 0, none⟩ = some (.int .i64 s) := blk_cell D1.out 0 _ rfl
  have p1 : w1.cell? ⟨w.heap.size, 1, none⟩ = some (.slice a cs.length c) := blk_cell D1.out 1 _ rfl
  go_wp2_with fail
  refine (of_any s cs a c _ (HV.out.up U1.out) hl).mono ?_
  rintro e w2 ⟨a', c', rfl, ho, b2⟩
  have U2 : Hid (Below w.heap.size w w2) := up_trans U1.out b2
  have D2 : Hid (w2.heap[w.heap.size]? = some (.cells #[.int .i64 s, .slice a cs.length c] 24)) := blk_up D1.out b2
  have O2 : Hid (ChgsR w2 (.slice a' cs.length c') cs) := ho.read
  clear p0 p1 b2 ho D1 U1
  go_wp2_with fail
  by_cases hz : checkOf s cs = 0
  · refine (encode_good s cs a' c' w2 O2.out hz).mono ?_
    rintro e w3 ⟨a3, n3, c3, rfl, O3, B3⟩
    have U3 : Hid (Below w.heap.size w w3) := up_trans U2.out B3.out
    have D3 : Hid (w3.heap[w.heap.size]? = some (.cells #[.int .i64 s, .slice a cs.length c] 24)) := blk_up D2.out B3.out
    have P3 : Hid (Octs w3 (.slice a3 n3 c3) (encOf s cs)) := Octs.own O3.out (encOf_octet s cs hz)
    have hn3 : n3 = (encOf s cs).length := by
      obtain ⟨x, y, e, _⟩ := P3.out.len
      simp at e
      exact e.2.1
    subst hn3
    have HD : Hid (decP 4 (encOf s cs) = .ok (s, cs)) := decP_back 4 s cs hz
    clear O3 B3 U2 D2 O2 hz
    go_wp2_with fail
    refine (num_any _ _).mono ?_
    rintro e w4 ⟨rfl, rfl⟩
    go_wp2_with fail
    refine (decode_ok (encOf s cs) a3 c3 w4 P3.out s cs HD.out).mono ?_
    rintro e w5 ⟨a5, c5, rfl, O5, B5⟩
    have U5 : Hid (Below w.heap.size w w5) := up_trans U3.out B5.out
    have D5 : Hid (w5.heap[w.heap.size]? = some (.cells #[.int .i64 s, .slice a cs.length c] 24)) := blk_up D3.out B5.out
    have q0 : ∀ o, (w5.alloc o).cell? ⟨w.heap.size, 0, none⟩ = some (.int .i64 s) := fun o => blk_cell (blk_up D5.out (up_alloc _ _)) 0 _ rfl
    have q1 : ∀ o, (w5.alloc o).cell? ⟨w.heap.size, 1, none⟩ = some (.slice a cs.length c) := fun o => blk_cell (blk_up D5.out (up_alloc _ _)) 1 _ rfl
    have R5 : Hid (∀ o, ChgsR (w5.alloc o) (.slice a5 cs.length c5) cs) := fun o => (O5.out.up (up_alloc _ _)).read
    have V5 : Hid (∀ o, ChgsR (w5.alloc o) (.slice a cs.length c) cs) := fun o => HV.out.up (up_al U5.out o)
    have U6 : Hid (∀ o, Below w.heap.size w (w5.alloc o)) := fun o => up_al U5.out o
    clear B5 O5 D3 U3 P3 HD
    go_wp2_with fail
    refine (num_any _ _).mono ?_
    rintro e w6 ⟨rfl, rfl⟩
    go_wp2_with fail
    refine (same_self s cs _ _ _ (R5.out _) (V5.out _)).mono ?_
    rintro e w7 ⟨rfl, b7⟩
    have U7 : Hid (Below w.heap.size w w7) := up_trans (U6.out _) b7
    clear b7 R5 V5 q0 q1 D5 U5 U6
    go_wp2_with fail
    cases hd : decP 4 lx with
    | error y =>
      have y1 : (y == 0) = false := by have := decP_err (by decide) hd; simp [this]
      refine (decode_bad lx ax cx _ (HX.out.up U7.out) y hd).mono ?_
      rintro e wa ⟨rfl, ba⟩
      have Ua : Hid (∀ o, Below w.heap.size w (wa.alloc o)) := fun o => up_al (up_trans U7.out ba) o
      clear hd ba
      go_wp2_with fail
      refine (num_any _ _).mono ?_
      rintro e wb ⟨rfl, rfl⟩
      go_wp2
      go_ret
      exact ⟨rfl, Ua.out _⟩
    | ok v2 =>
      obtain ⟨s2, cs2⟩ := v2
      obtain ⟨hE, hZ⟩ := decP_again HX.out.1 hd
      have HE : Hid (lx = encOf s2 cs2) := hE
      refine (decode_ok lx ax cx _ (HX.out.up U7.out) s2 cs2 hd).mono ?_
      rintro e wa ⟨a', c', rfl, Oa, ba⟩
      have Ua : Hid (∀ o, Below w.heap.size w (wa.alloc o)) := fun o => up_al (up_trans U7.out ba.out) o
      have Ra : Hid (∀ o, ChgsR (wa.alloc o) (.slice a' cs2.length c') cs2) := fun o => (Oa.out.up (up_alloc _ _)).read
      clear hd ba Oa hE
      go_wp2_with fail
      refine (num_any _ _).mono ?_
      rintro e wb ⟨rfl, rfl⟩
      go_wp2_with fail
      refine (encode_good s2 cs2 a' c' _ (Ra.out _) hZ).mono ?_
      rintro e wc ⟨a3, n3, c3, rfl, Oc, bc⟩
      have Uc : Hid (Below w.heap.size w wc) := up_trans (Ua.out _) bc.out
      have Pc : Hid (Octs wc (.slice a3 n3 c3) (encOf s2 cs2)) := Octs.own Oc.out (encOf_octet s2 cs2 hZ)
      clear bc Oc Ua Ra hZ
      go_wp2_with fail
      refine (num_any _ _).mono ?_
      rintro e wd ⟨rfl, rfl⟩
      go_wp2_with fail
      refine (same_any (encOf s2 cs2) lx _ _ _ Pc.out (HX.out.up Uc.out)).mono ?_
      rintro e we ⟨rfl, rfl⟩
      go_wp2
      go_ret
      exact ⟨ret_bool (decide_eq_true HE.out.symm), Uc.out⟩
  · refine (encode_bad s cs a' c' w2 O2.out hz).mono ?_
    rintro e w3 ⟨rfl, b3⟩
    have U3 : Hid (Below w.heap.size w w3) := up_trans U2.out b3
    have hz' : (checkOf s cs == 0) = false := by simp [hz]
    clear U2 D2 O2 b3
    go_wp2_with fail
    refine (num_any _ _).mono ?_
    rintro e w4 ⟨rfl, rfl⟩
    go_wp2_with fail
    cases hd : decP 4 lx with
    | error y =>
      have y1 : (y == 0) = false := by have := decP_err (by decide) hd; simp [this]
      refine (decode_bad lx ax cx _ (HX.out.up U3.out) y hd).mono ?_
      rintro e wa ⟨rfl, ba⟩
      have Ua : Hid (∀ o, Below w.heap.size w (wa.alloc o)) := fun o => up_al (up_trans U3.out ba) o
      clear hd ba
      go_wp2_with fail
      refine (num_any _ _).mono ?_
      rintro e wb ⟨rfl, rfl⟩
      go_wp2
      go_ret
      exact ⟨rfl, Ua.out _⟩
    | ok v2 =>
      obtain ⟨s2, cs2⟩ := v2
      obtain ⟨hE, hZ⟩ := decP_again HX.out.1 hd
      have HE : Hid (lx = encOf s2 cs2) := hE
      refine (decode_ok lx ax cx _ (HX.out.up U3.out) s2 cs2 hd).mono ?_
      rintro e wa ⟨a', c', rfl, Oa, ba⟩
      have Ua : Hid (∀ o, Below w.heap.size w (wa.alloc o)) := fun o => up_al (up_trans U3.out ba.out) o
      have Ra : Hid (∀ o, ChgsR (wa.alloc o) (.slice a' cs2.length c') cs2) := fun o => (Oa.out.up (up_alloc _ _)).read
      clear hd ba Oa hE
      go_wp2_with fail
      refine (num_any _ _).mono ?_
      rintro e wb ⟨rfl, rfl⟩
      go_wp2_with fail
      refine (encode_good s2 cs2 a' c' _ (Ra.out _) hZ).mono ?_
      rintro e wc ⟨a3, n3, c3, rfl, Oc, bc⟩
      have Uc : Hid (Below w.heap.size w wc) := up_trans (Ua.out _) bc.out
      have Pc : Hid (Octs wc (.slice a3 n3 c3) (encOf s2 cs2)) := Octs.own Oc.out (encOf_octet s2 cs2 hZ)
      clear bc Oc Ua Ra hZ
      go_wp2_with fail
      refine (num_any _ _).mono ?_
      rintro e wd ⟨rfl, rfl⟩
      go_wp2_with fail
      refine (same_any (encOf s2 cs2) lx _ _ _ Pc.out (HX.out.up Uc.out)).mono ?_
      rintro e we ⟨rfl, rfl⟩
      go_wp2
      go_ret
      exact ⟨ret_bool (decide_eq_true HE.out.symm), Uc.out⟩
end Go.Proofs.Ytgphkddcfcmaiaa
