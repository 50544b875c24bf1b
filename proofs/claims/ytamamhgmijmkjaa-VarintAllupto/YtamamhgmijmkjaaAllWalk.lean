/- The law VarintAll, walked: for any octets and any numbers of type uint64, each at most 2^20 of them, the Go function returns true and changes nothing that was there. -/
import Derived.Test.YtamamhgmijmkjaaNums
import Derived.Deep.CutRange
import Derived.BigQuiet
namespace Go.Proofs.Ytamamhgmijmkjaa
open Go.RowKit
set_option linter.unusedVariables false
set_option maxHeartbeats 1000000 in
theorem all_walk (v : Value) (lb : List Int) (ax : Option Addr) (cx : Nat) (ls : List Int) (w : World) (hO : Octs w v lb) (hlb : lb.length ≤ 1048576) (hN : Nums w ax ls) (hls : ls.length ≤ 1048576) (hcx : ls.length ≤ cx) (hcm : cx ≤ maxLen) :
    Calls Try.prog 4 #[v, .slice ax ls.length cx] w fun e w' => e = .returned (.bool true) ∧ Below w.heap.size w w' := by
  have HO : Hid (Octs w v lb) := hO
  have HN : Hid (Nums w ax ls) := hN
  have HBD := allOf_bd lb hO.1
  have HAC : Hid (allOf (cat ls) = (ls, 0)) := allOf_cat ls hN.1
  clear hO hN
  go_enter Try.func4, Try.ntmps4
  go_wp2_with fail
  refine (copy_any lb _ _ HO.out (by omega)).mono ?_
  rintro e w1 ⟨v1, rfl, hown1, hb1⟩
  have HO1 : Hid (Octs w1 v1 lb) := Octs.own hown1 HO.out.1
  clear hown1
  go_wp2_with fail
  refine (all_any lb _ _ HO1.out (by omega)).mono ?_
  rintro e w2 ⟨x2, rfl, hown2, hb2⟩
  obtain ⟨a2, c2, rfl, hc2, hm2, hN2⟩ := Nums.own hown2 HBD
  have HO2 : Hid (Octs w2 v lb) := HO.out.up (up_trans hb1 hb2)
  have HN2 : Hid (Nums w2 a2 (allOf lb).1) := hN2
  clear hown2 hN2
  go_wp2_with fail
  refine (refAll_any lb _ _ HO2.out (by omega)).mono ?_
  rintro e w3 ⟨x3, rfl, hown3, hb3⟩
  obtain ⟨a3, c3, rfl, hc3, hm3, hN3⟩ := Nums.own hown3 HBD
  have HN3 : Hid (Nums w3 a3 (allOf lb).1) := hN3
  have HN4 : Hid (Nums w3 a2 (allOf lb).1) := HN2.out.up hb3
  have up3 : Hid (Below w.heap.size w w3) := up_trans hb1 (up_trans hb2 hb3)
  have HO3 : Hid (Octs w3 v lb) := HO2.out.up hb3
  have HO4 : Hid (Octs w3 v1 lb) := HO1.out.up (up_trans hb2 hb3)
  clear hown3 hN3 HN2 HO1 HO2 hb1 hb2 hb3 HBD
  go_wp2_with fail
  refine (num_any _ _).mono ?_
  rintro e w4 ⟨rfl, rfl⟩
  go_wp2_with fail
  refine (same_any lb lb _ _ _ HO4.out HO3.out).mono ?_
  rintro e w4 ⟨rfl, rfl⟩
  rw [decide_eq_true (rfl : lb = lb)]
  clear HO3 HO4
  generalize (allOf lb).1 = ns at *
  generalize (allOf lb).2 = er at *
  unfold maxLen at hm2 hm3 hcm
  go_wp2_with fail
  go_loopw [10] (fun i wr => ∃ k : Nat, k ≤ ns.length ∧ i = .int .i64 k ∧ ∃ d, wr = w4.drewN d) (fun i _ => ns.length - (intOf i).toNat)
  case atStart => exact ⟨0, Nat.zero_le _, rfl, 0, rfl⟩
  case round =>
    obtain ⟨k, hk, rfl, d, rfl⟩ := hrel
    by_cases hlt : k < ns.length
    · obtain ⟨b2, o2, rfl, hx2⟩ := HN4.out.at k hlt
      obtain ⟨b3, o3, rfl, hx3⟩ := HN3.out.at k hlt
      have hlt' : (k : Int) < (ns.length : Int) := by omega
      generalize ns.getD k 0 = y at *
      go_wp2_with fail
      go_quiet (fail)
      go_wp2
      exact ⟨⟨k + 1, by omega, by go_num, _, rfl⟩, by simp [intOf]; omega⟩
    · have up5 : Hid (Below w.heap.size w (w4.drewN d)) := up_trans up3.out (up_drewN _ _)
      have HN5 : Hid (Nums (w4.drewN d) ax ls) := HN.out.up up5.out
      clear HN3 HN4 up3
      generalize w4.drewN d = w5 at *
      go_wp2_with fail
      go_loopw [11, 12] (fun va i wr => ∃ k : Nat, k ≤ ls.length ∧ i = .int .i64 k ∧ Hid (wr.ownsRow w5.heap.size 5 1 va (cat (ls.take k)).length ((cat (ls.take k)).map (Value.int .u8))) ∧ Hid (Below w5.heap.size w5 wr)) (fun _ i _ => ls.length - (intOf i).toNat)
      case atStart => exact ⟨0, Nat.zero_le _, rfl, World.ownsRow_nil _ _ _ _, Below.refl _ _⟩
      case round =>
        obtain ⟨k2, hk2, rfl, HW, HB⟩ := hrel
        by_cases hlt2 : k2 < ls.length
        · obtain ⟨b6, o6, rfl, hx6⟩ := (HN5.out.up HB.out).at k2 hlt2
          have hlt' : (k2 : Int) < (ls.length : Int) := by omega
          have hmem : ls.getD k2 0 ∈ ls := by simp [List.getD, hlt2]
          obtain ⟨p0, p1⟩ := HN5.out.1 _ hmem
          have HT : Hid (cat (ls.take (k2 + 1)) = cat (ls.take k2) ++ octets (ls.getD k2 0)) := by
            unfold Hid
            rw [take_snoc ls k2 hlt2, cat_snoc]
          have hcl : (cat (ls.take k2)).length ≤ 9 * 1048576 := by
            have := cat_len (ls.take k2) (fun x hx => HN5.out.1 x (List.mem_of_mem_take hx))
            have := List.length_take_le k2 ls
            omega
          have hol := octets_len _ p0 p1
          clear hmem
          generalize ls.getD k2 0 = y at *
          go_wp2_with fail
          refine (put_kept y _ p0 p1).mono ?_
          rintro e w7 ⟨v7, rfl, hK7, hb7⟩
          have HO7 : Hid (Octs w7 v7 (octets y)) := hK7.1
          have HW7 : Hid (w7.ownsRow w5.heap.size 5 1 u11 (cat (ls.take k2)).length ((cat (ls.take k2)).map (Value.int .u8))) := own_up HW.out hb7
          have HB7 : Hid (Below w5.heap.size w5 w7) := up_trans HB.out hb7
          clear hK7 hb7
          go_wp2_with (at_builtin; refine wpList_append_octs _ rfl _ _ rfl w5.heap.size _ (cat (ls.take k2)) rfl HW7.out _ (octets y) rfl HO7.out ?c1 ?c2 ?_)
          case c1 => omega
          case c2 => exact HB7.out.size
          intro v8 w8 hown8 hg8
          have HB8 : Hid (Below w5.heap.size w5 w8) := HB7.out.grown hg8 HB7.out.size (fun k hk => (HW7.out.lt k hk).1)
          have HW8 : Hid (w8.ownsRow w5.heap.size 5 1 v8 (cat (ls.take (k2 + 1))).length ((cat (ls.take (k2 + 1))).map (Value.int .u8))) := by
            unfold Hid
            rw [HT.out, List.length_append, List.map_append]
            exact hown8
          clear hown8 hg8
          go_wp2
          exact ⟨⟨k2 + 1, by omega, by go_num, HW8, HB8⟩, by simp [intOf]; omega⟩
        · obtain rfl : k2 = ls.length := by omega
          rw [List.take_length] at HW
          have HOc : Hid (Octs wr u11 (cat ls)) := Octs.own HW.out (cat_octet ls HN5.out.1)
          have hcl : (cat ls).length ≤ 9 * 1048576 := by
            have := cat_len ls HN5.out.1
            omega
          have up6 : Hid (Below w.heap.size w wr) := up_trans up5.out HB.out
          have HN6 : Hid (Nums wr ax ls) := HN5.out.up HB.out
          clear HW HB up5 HN5 hlt hlt2 hk hk2
          go_wp2_with fail
          refine (all_any (cat ls) _ _ HOc.out (by omega)).mono ?_
          rw [HAC.out]
          rintro e w9 ⟨x9, rfl, hown9, hb9⟩
          obtain ⟨a9, c9, rfl, hc9, hm9, hN9⟩ := Nums.own hown9 HN6.out.1
          have HN9 : Hid (Nums w9 a9 ls) := hN9
          have HN10 : Hid (Nums w9 ax ls) := HN6.out.up hb9
          have up9 : Hid (Below w.heap.size w w9) := up_trans up6.out hb9
          clear hown9 hN9 HOc HN6 up6 hb9 HAC HN HO
          unfold maxLen at hm9
          go_wp2_with fail
          refine (num_any _ _).mono ?_
          rintro e w10 ⟨rfl, rfl⟩
          go_wp2_with fail
          go_loopw [15] (fun i wq => ∃ k : Nat, k ≤ ls.length ∧ i = .int .i64 k ∧ ∃ d, wq = w10.drewN d) (fun i _ => ls.length - (intOf i).toNat)
          case atStart => exact ⟨0, Nat.zero_le _, rfl, 0, rfl⟩
          case round =>
            obtain ⟨k3, hk3, rfl, d3, rfl⟩ := hrel
            by_cases hlt3 : k3 < ls.length
            · obtain ⟨b7, o7, rfl, hx7⟩ := HN9.out.at k3 hlt3
              obtain ⟨b8, o8, rfl, hx8⟩ := HN10.out.at k3 hlt3
              have hlt' : (k3 : Int) < (ls.length : Int) := by omega
              generalize ls.getD k3 0 = y at *
              go_wp2_with fail
              go_quiet (fail)
              go_wp2
              exact ⟨⟨k3 + 1, by omega, by go_num, _, rfl⟩, by simp [intOf]; omega⟩
            · go_wp2_with fail
              refine (alive_any _).mono ?_
              rintro e w11 ⟨rfl, hb11⟩
              go_wp2
              go_ret
              exact ⟨rfl, up_trans up9.out (up_trans (up_drewN _ _) hb11)⟩
end Go.Proofs.Ytamamhgmijmkjaa
