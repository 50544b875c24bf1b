/- The law VarintBack, walked: for any number of type uint64 and any octets the Go function returns true and changes nothing that was there; the octets take at most 2^47 - 4096 bytes. -/
import Derived.Test.YtamamhgmijmkjaaArg
import Derived.Deep.CutRange
import Derived.BigCall
import Derived.Deep.RegionHeld3
namespace Go.Proofs.Ytamamhgmijmkjaa
open Go.RowKit
set_option linter.unusedVariables false

set_option maxHeartbeats 1000000 in
theorem back_bad (a0 : Int) (v : Value) (l : List Int) (w : World) (p0 : 0 ≤ a0) (p1 : a0 ≤ 18446744073709551615) (hO : Octs w v l) (hl : l.length ≤ 140737488351232) (m : Int) (hm8 : m = 8 ∨ m = 4) (hr : getRet l = .tuple #[.int .u64 0, .int .i64 0, .int .i64 m]) :
    Calls Try.prog 5 #[.int .u64 a0, v] w fun e w' => e = .returned (.bool true) ∧ Below w.heap.size w w' := by
  have hmb : (m == 0) = false := by rw [beq_eq_false_iff_ne]; omega
  have HR : Hid (getRet l = .tuple #[.int .u64 0, .int .i64 0, .int .i64 m]) := hr
  clear hr hm8
  obtain ⟨l1, l9⟩ := octets_len a0 p0 p1
  have hsize : ((octets a0).length : Int) = sizeOf a0 := (octets_form a0 p0 p1).size
  have HO : Hid (Octs w v l) := hO
  clear hO
  go_enter Try.func5, Try.ntmps5
  go_wp2_with fail
  refine (alive_any _).mono ?_
  rintro e w1 ⟨rfl, hb1⟩
  go_wp2_with fail
  refine (put_full a0 _ p0 p1).mono ?_
  rintro e w2 ⟨g, cap, rfl, hg, hg2, hcap, hm, hO2, hb2⟩
  have HO2 : Hid (Octs w2 (.slice (some ⟨g, 0, none⟩) (octets a0).length cap) (octets a0)) := hO2
  clear hO2
  have Hsize : Hid (((octets a0).length : Int) = sizeOf a0) := hsize
  clear hsize
  go_wp2_with fail
  refine (copy_any (octets a0) _ _ HO2.out (by omega)).mono ?_
  rintro e w3 ⟨v3, rfl, hown3, hb3⟩
  have up3 : Hid (Below w.heap.size w w3) := up_trans hb1 (up_trans hb2 hb3)
  have HO3 : Hid (Octs w3 v l) := HO.out.up up3.out
  have hbs : w2.heap.size ≤ w3.heap.size := hb3.size
  have hws : w.heap.size ≤ w2.heap.size := Nat.le_trans hb1.size hb2.size
  have Hown3 : Hid (w3.ownsRow w2.heap.size 5 1 v3 (octets a0).length ((octets a0).map (Value.int .u8))) := hown3
  clear hown3 hb1 hb2 hb3
  go_wp2_with (at_builtin; refine wpList_append_octs _ rfl _ _ rfl w2.heap.size _ (octets a0) rfl Hown3.out _ l rfl HO3.out ?c1 ?c2 ?_)
  case c1 => omega
  case c2 => exact hbs
  intro v4 w4 hown4 hg4
  have up4 : Hid (Below w.heap.size w w4) := up3.out.trans (((Below.refl w2.heap.size w3).grown hg4 hbs (fun k hk => (Hown3.out.lt k hk).1)).mono hws)
  have HO4 : Hid (Octs w4 v4 (octets a0 ++ l)) := Octs.own (base := w2.heap.size) (by rw [List.length_append, List.map_append]; exact hown4) (by
    intro x hx
    rcases List.mem_append.1 hx with hx | hx
    · exact (octets_form a0 p0 p1).octet x hx
    · exact HO.out.1 x hx)
  have HO5 : Hid (Octs w4 v l) := HO.out.up up4.out
  clear hown4 hg4 Hown3 HO3 HO2 up3
  go_wp2_with fail
  refine (get_any (octets a0 ++ l) _ _ HO4.out).mono ?_
  rintro e w5 ⟨rfl, d5, rfl⟩
  rw [getOf_back a0 p0 p1 l]
  clear HO4
  go_wp2_with fail
  refine (num_any _ _).mono ?_
  rintro e w6 ⟨rfl, rfl⟩
  rw [← Hsize.out]
  go_wp2_with fail
  refine (size_any a0 _ p0 p1).mono ?_
  rintro e w6 ⟨rfl, rfl⟩
  rw [← Hsize.out]
  go_wp2_with fail
  refine (get_any l _ _ (HO5.out.drewN d5)).mono ?_
  rintro e w7 ⟨rfl, d7, rfl⟩
  rw [HR.out]
  go_wp2_with fail
  refine (num_any _ _).mono ?_
  rintro e w8 ⟨rfl, rfl⟩
  go_wp2
  go_ret
  exact ⟨rfl, up_trans up4.out (up_drewN _ _)⟩

set_option maxHeartbeats 1000000 in
theorem back_good (a0 : Int) (b off cp len : Nat) (l : List Int) (w : World) (p0 : 0 ≤ a0) (p1 : a0 ≤ 18446744073709551615) (hlen : l.length = len) (hO : Octs w (.slice (some ⟨b, off, none⟩) len cp) l) (hl : len ≤ 140737488351232) (hcp : len ≤ cp) (hcm : cp ≤ maxLen)
    (n : Int) (j : Nat) (n0 : 0 ≤ n) (n1 : n ≤ 18446744073709551615) (j1 : 1 ≤ j) (jl : j ≤ len) (hj : octets n = l.take j) (hr : getRet l = .tuple #[.int .u64 n, .int .i64 j, .int .i64 0]) :
    Calls Try.prog 5 #[.int .u64 a0, .slice (some ⟨b, off, none⟩) len cp] w fun e w' => e = .returned (.bool true) ∧ Below w.heap.size w w' := by
  have HR : Hid (getRet l = .tuple #[.int .u64 n, .int .i64 j, .int .i64 0]) := hr
  have HJ : Hid (octets n = l.take j) := hj
  have HL : Hid (l.length = len) := hlen
  have hne : l ≠ [] := by intro e; rw [e] at hlen; simp at hlen; omega
  have HC : Hid (∀ w', Octs w' (.slice (some ⟨b, off, none⟩) len cp) l → Octs w' (.slice (some ⟨b, off, none⟩) j cp) (l.take j)) := fun w' h => by
    have h2 := hlen
    subst h2
    exact h.cut hne j jl
  have g1 : decide ((1 : Int) ≤ (j : Int)) = true := by simp; omega
  have g2 : decide ((j : Int) ≤ (len : Int)) = true := by simp; omega
  have g3 : (j : Int) ≤ (cp : Int) := by omega
  clear hr hj hne hlen
  unfold maxLen at hcm
  obtain ⟨l1, l9⟩ := octets_len a0 p0 p1
  have hsize : ((octets a0).length : Int) = sizeOf a0 := (octets_form a0 p0 p1).size
  have HO : Hid (Octs w (.slice (some ⟨b, off, none⟩) len cp) l) := hO
  clear hO
  go_enter Try.func5, Try.ntmps5
  go_wp2_with fail
  refine (alive_any _).mono ?_
  rintro e w1 ⟨rfl, hb1⟩
  go_wp2_with fail
  refine (put_full a0 _ p0 p1).mono ?_
  rintro e w2 ⟨g, cap, rfl, hg, hg2, hcap, hm, hO2, hb2⟩
  have HO2 : Hid (Octs w2 (.slice (some ⟨g, 0, none⟩) (octets a0).length cap) (octets a0)) := hO2
  clear hO2
  have Hsize : Hid (((octets a0).length : Int) = sizeOf a0) := hsize
  clear hsize
  go_wp2_with fail
  refine (copy_any (octets a0) _ _ HO2.out (by omega)).mono ?_
  rintro e w3 ⟨v3, rfl, hown3, hb3⟩
  have up3 : Hid (Below w.heap.size w w3) := up_trans hb1 (up_trans hb2 hb3)
  have HO3 : Hid (Octs w3 (.slice (some ⟨b, off, none⟩) len cp) l) := HO.out.up up3.out
  have hbs : w2.heap.size ≤ w3.heap.size := hb3.size
  have hws : w.heap.size ≤ w2.heap.size := Nat.le_trans hb1.size hb2.size
  have Hown3 : Hid (w3.ownsRow w2.heap.size 5 1 v3 (octets a0).length ((octets a0).map (Value.int .u8))) := hown3
  clear hown3 hb1 hb2 hb3
  go_wp2_with (at_builtin; refine wpList_append_octs _ rfl _ _ rfl w2.heap.size _ (octets a0) rfl Hown3.out _ l rfl HO3.out ?c1 ?c2 ?_)
  case c1 => rw [HL.out]; omega
  case c2 => exact hbs
  intro v4 w4 hown4 hg4
  have up4 : Hid (Below w.heap.size w w4) := up3.out.trans (((Below.refl w2.heap.size w3).grown hg4 hbs (fun k hk => (Hown3.out.lt k hk).1)).mono hws)
  have HO4 : Hid (Octs w4 v4 (octets a0 ++ l)) := Octs.own (base := w2.heap.size) (by rw [List.length_append, List.map_append]; exact hown4) (by
    intro x hx
    rcases List.mem_append.1 hx with hx | hx
    · exact (octets_form a0 p0 p1).octet x hx
    · exact HO.out.1 x hx)
  have HO5 : Hid (Octs w4 (.slice (some ⟨b, off, none⟩) len cp) l) := HO.out.up up4.out
  clear hown4 hg4 Hown3 HO3 HO2 up3
  go_wp2_with fail
  refine (get_any (octets a0 ++ l) _ _ HO4.out).mono ?_
  rintro e w5 ⟨rfl, d5, rfl⟩
  rw [getOf_back a0 p0 p1 l]
  clear HO4
  go_wp2_with fail
  refine (num_any _ _).mono ?_
  rintro e w6 ⟨rfl, rfl⟩
  rw [← Hsize.out]
  go_wp2_with fail
  refine (size_any a0 _ p0 p1).mono ?_
  rintro e w6 ⟨rfl, rfl⟩
  rw [← Hsize.out]
  go_upto_region 7 with fail
  go_cut [9, 10, 11] from 12 (fun s9 s10 s11 wx => s9 = .int .u64 n ∧ s10 = .int .i64 j ∧ s11 = .int .i64 0 ∧ ∃ d, wx = w4.drewN d)
  case first =>
    go_wp2_with fail
    refine (get_any l _ _ (HO5.out.drewN d5)).mono ?_
    rintro e w7 ⟨rfl, d7, rfl⟩
    rw [HR.out]
    go_wp2_with fail
    go_meet
    case rel => exact ⟨rfl, rfl, rfl, _, rfl⟩
  case rest =>
  obtain ⟨rfl, rfl, rfl, d, rfl⟩ := hcut
  clear hg hg2 hcap hm hbs hws l1 l9 HO HR
  go_wp2_with fail
  refine (num_any _ _).mono ?_
  rintro e w8 ⟨rfl, rfl⟩
  go_wp2_with fail
  go_region_held3 (fun _ => True) (trivial) (first
    | (go_at_call 15; refine (put_kept n _ n0 n1).mono ?_; rintro e w9 ⟨v9, rfl, hK9, hb9⟩)
    | (go_at_call 14; refine (same_any (octets n) (l.take j) _ _ _ hK9.1 (HC.out _ (HO5.out.up (up_trans (up_drewN _ _) hb9)))).mono ?_; rintro e w10 ⟨rfl, rfl⟩; rw [decide_eq_true HJ.out]))
  go_wp2
  go_ret
  exact ⟨rfl, up_trans up4.out (up_trans (up_drewN w4 (d + 1)) hb9)⟩

theorem back_walk (a0 : Int) (v : Value) (l : List Int) (w : World) (w0 : (Lit.int .u64 a0).wf = true) (hO : Octs w v l) (hl : l.length ≤ 140737488351232) :
    Calls Try.prog 5 #[.int .u64 a0, v] w fun e w' => e = .returned (.bool true) ∧ Below w.heap.size w w' := by
  obtain ⟨p0, p1⟩ := bounds_u64 w0
  rcases get_says l hO.1 with h | h | ⟨n, j, hr, n0, n1, j1, jl, hj, _⟩
  · exact back_bad a0 v l w p0 p1 hO hl 8 (.inl rfl) h
  · exact back_bad a0 v l w p0 p1 hO hl 4 (.inr rfl) h
  · obtain ⟨hx, h0⟩ := hO
    rcases h0 with ⟨rfl, _⟩ | ⟨hne, b, off, cap, rfl, hc, hm, hcell⟩
    · simp at jl; omega
    · exact back_good a0 b off cap l.length l w p0 p1 rfl ⟨hx, .inr ⟨hne, b, off, cap, rfl, hc, hm, hcell⟩⟩ hl hc hm n j n0 n1 j1 jl hj hr
end Go.Proofs.Ytamamhgmijmkjaa
