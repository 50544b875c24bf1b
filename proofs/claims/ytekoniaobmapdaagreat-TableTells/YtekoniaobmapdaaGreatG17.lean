/- The texts XTold2, XDec, XSeek, XCopy, BLeaf, BHash, in this order. -/
import Derived.Test.YtekoniaobmapdaaGreatG16
import Derived.Test.YtekoniaobmapdaaGreatG14
import Derived.Deep.Cut
import Derived.Test.YtekoniaobmapdaaGreatXEnc
import Derived.Test.YtekoniaobmapdaaGreatG07
import Derived.Test.YtekoniaobmapdaaGreatG08
import Derived.Deep.RegionHeld3
import Derived.Test.YtekoniaobmapdaaGreatG09

/- The walk of the document's told of layer 9. -/
namespace Go.Proofs.YtekoniaobmapdaaGreat
open Go.RowKit SumPlain
set_option linter.unusedVariables false
set_option linter.unusedSimpArgs false

theorem Tryz.info43 : (Tryz.prog.info? 43).map (fun i => (i.zero, i.size, i.bytes)) = some (some (.agg #[.string ⟨#[]⟩, .int .i64 0, .int .i64 0, .string ⟨#[]⟩]), 4, 48) := by kernel_rfl
theorem enRow_one (y : En) : ∀ r ∈ [enRow y], ∀ u ∈ r, u.oneCell' = true := by
  intro r hr u hu
  simp only [List.mem_cons, List.mem_nil_iff, or_false] at hr
  subst hr
  simp only [enRow, List.mem_cons, List.mem_nil_iff, or_false] at hu
  rcases hu with rfl | rfl | rfl | rfl <;> rfl

/-- The reader and what has been told so far. -/
structure TolW (w W : World) (X : List Int) (ax : Option Addr) (cx j : Nat) (y : Int) (v : Value) (out : List En) : Prop where
  rq : RQ w W w.heap.size X ax cx j y
  own : OwnR W (w.heap.size + 1) 43 4 v (out.map enRow)
theorem TolW.upw {w W W' : World} {X : List Int} {ax : Option Addr} {cx j : Nat} {y : Int} {v : Value} {out : List En} (h : TolW w W X ax cx j y v out) (hb : Below W.heap.size W W') : TolW w W' X ax cx j y v out := ⟨h.rq.upw hb, h.own.up hb⟩
theorem TolW.call {w W W' : World} {X : List Int} {ax : Option Addr} {cx j j' : Nat} {y y' : Int} {v : Value} {out : List En} (h : TolW w W X ax cx j y v out) (hr : RQ w W' w.heap.size X ax cx j' y') (hg : W.grownBy W' (some w.heap.size)) : TolW w W' X ax cx j' y' v out :=
  ⟨hr, h.own.far hg (.inr fun e => by have := (h.own.2.lt _ e).1; omega)⟩
theorem own_call {W W' : World} {base N : Nat} {v : Value} {l : List Int} (h : OwnB W base v l) (hg : W.grownBy W' (some N)) (hN : N < base) : OwnB W' base v l :=
  World.ownsRow.kept h hg (.inr fun e => by have := (h.lt _ e).1; omega)
theorem TakeS.oct {X : List Int} {m j : Nat} {y : Int} {l : List Int} {j' : Nat} {y' : Int} (h : TakeS X m j y l j' y') (hX : ∀ x ∈ X, 0 ≤ x ∧ x ≤ 255) : ∀ x ∈ l, 0 ≤ x ∧ x ≤ 255 := by
  rcases h with ⟨_, _, _, _, rfl⟩ | ⟨_, rfl, _⟩
  · exact fun x hx => hX x (List.mem_of_mem_drop (List.mem_of_mem_take hx))
  · simp
theorem TakeS.len {X : List Int} {m j : Nat} {y : Int} {l : List Int} {j' : Nat} {y' : Int} (h : TakeS X m j y l j' y') : l.length ≤ m := by
  rcases h with ⟨_, _, _, _, rfl⟩ | ⟨_, rfl, _⟩
  · rw [List.length_take]; omega
  · simp
theorem own_head {w : World} {base g o n c : Nat} {x : Int} (h : OwnB w base (.slice (some ⟨g, o, none⟩) n c) [x]) (hx : ∀ y ∈ [x], 0 ≤ y ∧ y ≤ 255) : w.cell? ⟨g, o, none⟩ = some (.int .u8 x) := by
  obtain ⟨b, off, cap, e, _, _, hc⟩ := (Octs.own h hx).at 0 (by simp)
  simp only [Value.slice.injEq, Option.some.injEq, Addr.mk.injEq] at e
  obtain ⟨⟨rfl, rfl, _⟩, _⟩ := e
  simpa using hc
theorem own_at {w : World} {base : Nat} {a : Option Addr} {n c : Nat} {x : Int} (h : OwnB w base (.slice a n c) [x]) (hx : ∀ y ∈ [x], 0 ≤ y ∧ y ≤ 255) : ∃ g o, a = some ⟨g, o, none⟩ ∧ n = 1 := by
  obtain ⟨b, off, cap, e, _, _, hc⟩ := (Octs.own h hx).at 0 (by simp)
  simp only [Value.slice.injEq] at e
  exact ⟨b, off, e.1, e.2.1⟩
def sliceLen : Value → Nat
  | .slice _ n _ => n
  | _ => 0
/-- What the rounds so far have told. -/
structure TolI (w wr : World) (X : List Int) (ax : Option Addr) (cx F f j : Nat) (key : List Int) (v : Value) (out : List En) : Prop where
  tw : TolW w wr X ax cx j 0 v out
  fu : X.length - j < f
  eq : toldP F [] [] X = toldP f key out (X.drop j)
  ko : ∀ x ∈ key, 0 ≤ x ∧ x ≤ 255

/-- How told ends. -/
def ToldEnd (l : List En) (w : World) (e : Ending) (w' : World) : Prop := ∃ a n c, e = .returned (.slice a n c) ∧ Hid (n = l.length ∧ OwnR w' w.heap.size 43 4 (.slice a n c) (l.map enRow)) ∧ Hid (Below w.heap.size w w')

set_option maxHeartbeats 8000000 in
set_option maxRecDepth 100000 in
theorem refTold_any (B : List Int) (v : Value) (w : World) (hv : Octs w v B) (hl : B.length ≤ 140737488355328) :
    Calls Tryz.prog 81 #[v] w fun e w' => ToldEnd (toldB B) w e w' := by
  by_cases h1 : B.length < 1
  · obtain ⟨a, c, rfl, _, _⟩ := hv.len
    obtain rfl : B = [] := by cases B with | nil => rfl | cons x r => simp at h1
    have HT : Hid (toldB [] = []) := by unfold Hid toldB; simp
    clear hv h1
    rw [HT.out]
    go_enter Tryz.func81, Tryz.ntmps81
    go_wp2
    go_ret
    exact ⟨none, 0, 0, rfl, ⟨rfl, OwnR.nil _ _ _ _⟩, Below.refl _ _⟩
  · obtain ⟨b, off, cap, rfl, hcap, hmax, hlast⟩ := hv.at (B.length - 1) (by omega)
    have hq := hv.oct (B.length - 1) (by omega)
    have HV : Hid (Octs w (.slice (some ⟨b, off, none⟩) B.length cap) B) := hv
    clear hv
    obtain ⟨q, hqe⟩ : ∃ q, q = B.getD (B.length - 1) 0 := ⟨_, rfl⟩
    obtain ⟨n, hn⟩ : ∃ n, n = B.length := ⟨_, rfl⟩
    obtain ⟨m, hm⟩ : ∃ m, m = B.length - 1 := ⟨_, rfl⟩
    have HN : Hid (B.length = n) := hn.symm
    have HQ : Hid (B.getD (B.length - 1) 0 = q) := hqe.symm
    rw [← hqe] at hlast hq
    rw [← hm] at hlast
    rw [← hn] at h1 hl hcap ⊢
    have hmn : (n : Int) - 1 = (m : Int) := by omega
    have hmlt : (m : Int) < (n : Int) := by omega
    have hm0 : 0 ≤ (m : Int) := by omega
    have hmw : IntKind.i64.wrap (m : Int) = (m : Int) := wrap64_id _ (by omega) (by omega)
    have h1' : ¬ (n : Int) < 1 := by omega
    have hqw : IntKind.i64.wrap q = q := wrap64_id _ (by omega) (by omega)
    have hq2 : IntKind.i64.wrap (2 * q) = 2 * q := wrap64_id _ (by omega) (by omega)
    clear hn hm hqe
    by_cases hneg : (m : Int) - 2 * q < 0
    · have hw : IntKind.i64.wrap ((m : Int) - 2 * q) = (m : Int) - 2 * q := by simp [IntKind.wrap, IntKind.bits, IntKind.signed]; omega
      have HT : Hid (toldB B = []) := by
        unfold Hid toldB
        rw [HQ.out, HN.out, if_neg (by omega), if_pos (by omega)]
      rw [HT.out]
      clear HV HT HQ HN
      go_enter Tryz.func81, Tryz.ntmps81
      go_wp2
      go_ret
      exact ⟨none, 0, 0, rfl, ⟨rfl, OwnR.nil _ _ _ _⟩, Below.refl _ _⟩
    · obtain ⟨M, hM⟩ : ∃ M : Nat, (m : Int) - 2 * q = (M : Int) := ⟨((m : Int) - 2 * q).toNat, by omega⟩
      have hMw : IntKind.i64.wrap (M : Int) = (M : Int) := wrap64_id _ (by omega) (by omega)
      have hM0 : ¬ (M : Int) < 0 := by omega
      have hM1 : 0 ≤ (M : Int) := by omega
      have hMn : (M : Int) ≤ (n : Int) := by omega
      have hMc : (M : Int) ≤ (cap : Int) := by omega
      have hMc' : M ≤ cap := by omega
      obtain ⟨X, hX⟩ : ∃ X, X = B.take M := ⟨_, rfl⟩
      have hXL : X.length = M := by rw [hX, List.length_take, HN.out]; omega
      have HXO : Hid (Octs w (.slice (some ⟨b, off, none⟩) X.length cap) X) := by
        unfold Hid
        rw [hXL, hX]
        exact HV.out.cut rfl M (by rw [HN.out]; omega)
      obtain ⟨F, hF⟩ : ∃ F, F = n + 1 := ⟨_, rfl⟩
      have HT : Hid (toldB B = toldP F [] [] X) := by
        unfold Hid toldB
        have e : ((n : Int) - 1 - 2 * q) = (M : Int) := by omega
        rw [HQ.out, HN.out, if_neg (by omega), e, if_neg (by omega), Int.toNat_natCast, hX, hF]
      rw [HT.out]
      have HXL : Hid (X.length = M) := hXL
      have I0 : Hid (TolI w (w.alloc (.cells #[.slice (some ⟨b, off, none⟩) M cap, .int .i64 0, .int .i64 0] 148)) X (some ⟨b, off, none⟩) cap F F 0 [] (.slice none 0 0) []) := by
        refine ⟨⟨⟨up_alloc _ _, Nat.le_refl _, ?_, HXO.out, Nat.zero_le _, by omega⟩, OwnR.nil _ _ _ _⟩, by omega, rfl, by simp⟩
        rw [hXL]
        exact blk_new _ _
      clear HV HT HQ HN hX hXL HXO hF
      go_enter Tryz.func81, Tryz.ntmps81
      go_wp2_with fail
      generalize w.alloc (.cells #[.slice (some ⟨b, off, none⟩) M cap, .int .i64 0, .int .i64 0] 148) = W0 at *
      clear hlast hq hqw hq2 hmn hmlt hm0 hmw h1' h1 hneg hM
      go_loopw [5, 6] (fun q5 q6 wr => ∃ (f j k : Nat) (key : List Int) (out : List En) (a : Option Addr) (c : Nat), q5 = .slice a k c ∧ q6 = .string (strOfNums key) ∧ k ≤ 65 ∧ Hid (out.length = k) ∧ Hid (TolI w wr X (some ⟨b, off, none⟩) cap F f j key (.slice a k c) out)) (fun q5 _ _ => 66 - sliceLen q5)
      case atStart => exact ⟨F, 0, 0, [], [], none, 0, rfl, rfl, by omega, rfl, I0⟩
      case round =>
        clear I0
        obtain ⟨f, j, k, key, out, a, c, rfl, rfl, hk, HK, TI⟩ := hrel
        have p1 : wr.cell? ⟨w.heap.size, 1, none⟩ = some (.int .i64 (j : Int)) := blk_cell TI.out.tw.rq.blk 1 _ rfl
        have p2 : wr.cell? ⟨w.heap.size, 2, none⟩ = some (.int .i64 0) := blk_cell TI.out.tw.rq.blk 2 _ rfl
        by_cases hj : j < M
        · have hj' : (j : Int) < (M : Int) := by omega
          by_cases hk4 : k ≤ 64
          · have hk4' : (k : Int) ≤ 64 := by omega
            have HNE : Hid (¬ (X.drop j = [] ∨ 64 < out.length)) := by
              rintro (h | h)
              · have := congrArg List.length h
                rw [List.length_drop, HXL.out, List.length_nil] at this
                omega
              · rw [HK.out] at h; omega
            have NL : Hid (w.heap.size < wr.heap.size) := blk_lt TI.out.tw.rq.blk
            have K0 : Hid (TolW w wr X (some ⟨b, off, none⟩) cap j 0 (.slice a k c) out) := TI.out.tw
            have C1 := refNum_s w.heap.size X (some ⟨b, off, none⟩) cap j (0) 65536 w wr K0.out.rq (by decide) (by decide)
            go_wp2_with fail
            refine C1.mono ?_
            rintro e u1 ⟨n1, j1, y1, rfl, S1, R1, G1⟩
            have K1 : Hid (TolW w u1 X (some ⟨b, off, none⟩) cap j1 y1 (.slice a k c) out) := K0.out.call R1.out G1.out
            have L1 : Hid (w.heap.size < u1.heap.size) := blk_lt K1.out.rq.blk
            have J1 : Hid (j1 ≤ X.length) := K1.out.rq.le
            clear C1 R1 G1 p1 p2
            have C2 := refNum_s w.heap.size X (some ⟨b, off, none⟩) cap j1 (y1) 65536 w u1 K1.out.rq (by decide) (by decide)
            go_wp2_with fail
            refine C2.mono ?_
            rintro e u2 ⟨n2, j2, y2, rfl, S2, R2, G2⟩
            have K2 : Hid (TolW w u2 X (some ⟨b, off, none⟩) cap j2 y2 (.slice a k c) out) := K1.out.call R2.out G2.out
            have L2 : Hid (w.heap.size < u2.heap.size) := blk_lt K2.out.rq.blk
            have J2 : Hid (j2 ≤ X.length) := K2.out.rq.le
            clear C2 R2 G2
            have C3 := refNum_s w.heap.size X (some ⟨b, off, none⟩) cap j2 (y2) 1099511627776 w u2 K2.out.rq (by decide) (by decide)
            go_wp2_with fail
            refine C3.mono ?_
            rintro e u3 ⟨n3, j3, y3, rfl, S3, R3, G3⟩
            have K3 : Hid (TolW w u3 X (some ⟨b, off, none⟩) cap j3 y3 (.slice a k c) out) := K2.out.call R3.out G3.out
            have L3 : Hid (w.heap.size < u3.heap.size) := blk_lt K3.out.rq.blk
            have J3 : Hid (j3 ≤ X.length) := K3.out.rq.le
            clear C3 R3 G3
            have C4 := refNum_s w.heap.size X (some ⟨b, off, none⟩) cap j3 (y3) 65536 w u3 K3.out.rq (by decide) (by decide)
            go_wp2_with fail
            refine C4.mono ?_
            rintro e u4 ⟨n4, j4, y4, rfl, S4, R4, G4⟩
            have K4 : Hid (TolW w u4 X (some ⟨b, off, none⟩) cap j4 y4 (.slice a k c) out) := K3.out.call R4.out G4.out
            have L4 : Hid (w.heap.size < u4.heap.size) := blk_lt K4.out.rq.blk
            have J4 : Hid (j4 ≤ X.length) := K4.out.rq.le
            clear C4 R4 G4
            have hn2 : n2 ≤ 65536 := by have := S2.out.1; omega
            have hn4 : n4 ≤ 65536 := by have := S4.out.1; omega
            have J0 : Hid (j ≤ X.length) := TI.out.tw.rq.le
            have C5 := refTake_s w.heap.size X (some ⟨b, off, none⟩) cap j4 1 y4 w u4 K4.out.rq (by decide)
            rw [show ((1 : Nat) : Int) = 1 from rfl] at C5
            go_wp2_with fail
            refine C5.mono ?_
            rintro e u5 ⟨a5, k5, c5, l5, j5, y5, rfl, S5, O5, R5, G5⟩
            have K5 : Hid (TolW w u5 X (some ⟨b, off, none⟩) cap j5 y5 (.slice a k c) out) := K4.out.call R5.out G5.out
            have L5 : Hid (w.heap.size < u5.heap.size) := blk_lt K5.out.rq.blk
            clear C5 R5 G5
            have C6 := refTake_s w.heap.size X (some ⟨b, off, none⟩) cap j5 n2 y5 w u5 K5.out.rq hn2
            go_wp2_with fail
            refine C6.mono ?_
            rintro e u6 ⟨a6, k6, c6, l6, j6, y6, rfl, S6, O6, R6, G6⟩
            have K6 : Hid (TolW w u6 X (some ⟨b, off, none⟩) cap j6 y6 (.slice a k c) out) := K5.out.call R6.out G6.out
            have L6 : Hid (w.heap.size < u6.heap.size) := blk_lt K6.out.rq.blk
            have O5' := own_call O5.out G6.out L4.out
            clear O5
            have O5 : Hid (OwnB u6 u4.heap.size (.slice a5 k5 c5) l5) := O5'
            clear O5'
            clear C6 R6 G6
            have C7 := refTake_s w.heap.size X (some ⟨b, off, none⟩) cap j6 n4 y6 w u6 K6.out.rq hn4
            go_wp2_with fail
            refine C7.mono ?_
            rintro e u7 ⟨a7, k7, c7, l7, j7, y7, rfl, S7, O7, R7, G7⟩
            have K7 : Hid (TolW w u7 X (some ⟨b, off, none⟩) cap j7 y7 (.slice a k c) out) := K6.out.call R7.out G7.out
            have L7 : Hid (w.heap.size < u7.heap.size) := blk_lt K7.out.rq.blk
            have O5' := own_call O5.out G7.out L4.out
            clear O5
            have O5 : Hid (OwnB u7 u4.heap.size (.slice a5 k5 c5) l5) := O5'
            clear O5'
            have O6' := own_call O6.out G7.out L5.out
            clear O6
            have O6 : Hid (OwnB u7 u5.heap.size (.slice a6 k6 c6) l6) := O6'
            clear O6'
            clear C7 R7 G7
            have HX : Hid (∀ y ∈ X, 0 ≤ y ∧ y ≤ 255) := TI.out.tw.rq.octs.1
            have Q5 : Hid (∀ y ∈ l5, 0 ≤ y ∧ y ≤ 255) := S5.out.oct HX.out
            have Q6 : Hid (∀ y ∈ l6, 0 ≤ y ∧ y ≤ 255) := S6.out.oct HX.out
            have Q7 : Hid (∀ y ∈ l7, 0 ≤ y ∧ y ≤ 255) := S7.out.oct HX.out
            have M6 : Hid (l6.length ≤ 65536) := Nat.le_trans S6.out.len hn2
            have SV : Hid (Seven X j n1 n2 n3 n4 l5 l6 l7 j7 y7) := ⟨j1, j2, j3, j4, j5, j6, y1, y2, y3, y4, y5, y6, S1.out, S2.out, S3.out, S4.out, S5.out, S6.out, S7.out, J0.out, J1.out, J2.out, J3.out, J4.out⟩
            clear S1 S2 S3 S4 S5 S6 S7 J0 J1 J2 J3 J4 K1 K2 K3 K4 K5 K6 K0
            have p2 : u7.cell? ⟨w.heap.size, 2, none⟩ = some (.int .i64 y7) := blk_cell K7.out.rq.blk 2 _ rfl
            have HBAD : Hid (entP key (X.drop j) = none → toldP F [] [] X = []) := fun h => by rw [TI.out.eq]; exact toldP_bad (by have := TI.out.fu; omega) HNE.out h
            have HU : Hid (Below w.heap.size w u7) := K7.out.rq.up
            by_cases hy : y7 = 0
            · subst hy
              obtain ⟨x, hd, jlt, jle, hs, hn1, hent⟩ := SV.out.fine key
              have HSZ : Hid ((strOfNums key).size = key.length) := str_size key
              by_cases hlong : key.length < n1
              · have HE : Hid (toldP F [] [] X = []) := HBAD.out (by rw [hent, if_pos hlong])
                have hlong' : ((strOfNums key).size : Int) < (n1 : Int) := by rw [HSZ.out]; omega
                clear hent hd HBAD
                go_wp2
                go_ret
                rw [HE.out]
                exact ⟨none, 0, 0, rfl, ⟨rfl, OwnR.nil _ _ _ _⟩, HU.out⟩
              · have hlong' : ¬ ((strOfNums key).size : Int) < (n1 : Int) := by rw [HSZ.out]; omega
                have hlen1 : (n1 : Int) ≤ ((strOfNums key).size : Int) := by omega
                have hlen0 : 0 ≤ (n1 : Int) := by omega
                rw [if_neg hlong] at hent
                have HEN : Hid (entP key (X.drop j) = some (⟨strOfNums (key.take n1 ++ l6), (n3 : Int), x, strOfNums l7⟩, key.take n1 ++ l6, X.drop j7)) := hent
                clear hent HBAD
                subst hd
                have hv6 := run_convert_octs l6 (.slice a6 k6 c6) u7.drew ((Octs.own O6.out Q6.out).up (up_dr (Below.refl _ _)))
                have hsum : ¬ 9223372036854775807 < min n1 (strOfNums key).size + (strOfNums l6).size := by
                  have := M6.out
                  rw [str_size l6]
                  omega
                obtain ⟨g5, o5, rfl, rfl⟩ := own_at O5.out Q5.out
                go_wp2_with fail
                go_region
                have U8 : Hid (Below u7.heap.size u7 u7.drew) := up_dr (Below.refl _ _)
                have K8 : Hid (TolW w u7.drew X (some ⟨b, off, none⟩) cap j7 0 (.slice a k c) out) := K7.out.upw U8.out
                have P5 : Hid (OwnB u7.drew u4.heap.size (.slice (some ⟨g5, o5, none⟩) 1 c5) [x]) := own_up O5.out U8.out
                have P7 : Hid (OwnB u7.drew u6.heap.size (.slice a7 k7 c7) l7) := own_up O7.out U8.out
                have HKS : Hid ((strOfNums key).extract 0 n1 ++ strOfNums l6 = strOfNums (key.take n1 ++ l6)) := by
                  unfold Hid
                  rw [str_cut, str_cat]
                  simp
                clear K7 O5 O6 O7 hv6 U8 p2
                generalize (strOfNums key).extract 0 n1 ++ strOfNums l6 = KS at *
                generalize u7.drew = U at *
                obtain ⟨y, hy⟩ : ∃ y : En, y = ⟨KS, (n3 : Int), x, strOfNums l7⟩ := ⟨_, rfl⟩
                have HYR : Hid (enRow y = [.string KS, .int .i64 (n3 : Int), .int .i64 x, .string (strOfNums l7)]) := by rw [hy]; rfl
                have HYE : Hid (y = ⟨strOfNums (key.take n1 ++ l6), (n3 : Int), x, strOfNums l7⟩) := by unfold Hid; rw [hy, HKS.out]
                clear hy
                obtain ⟨A, hA⟩ : ∃ A, A = (U.alloc (.cells #[.string KS, .int .i64 (n3 : Int), .int .i64 x, .string (strOfNums l7)] 43)).drew := ⟨_, rfl⟩
                have UX : Hid (Below U.heap.size U A) := by rw [hA]; exact up_dr (up_al (Below.refl _ _) _)
                have HR2 : Hid (Rws 4 A (.slice (some ⟨U.heap.size, 0, none⟩) 1 1) [enRow y]) := by
                  unfold Hid
                  rw [hA, HYR.out]
                  exact (Rws.made (sz := 4) U 43 [[.string KS, .int .i64 (n3 : Int), .int .i64 x, .string (strOfNums l7)]] (by simp) (by simp [maxLen])).up (up_dr (Below.refl _ _))
                have K9 : Hid (TolW w A X (some ⟨b, off, none⟩) cap j7 0 (.slice a k c) out) := K8.out.upw UX.out
                have S9 : Hid (OwnB A u4.heap.size (.slice (some ⟨g5, o5, none⟩) 1 c5) [x] ∧ OwnB A u6.heap.size (.slice a7 k7 c7) l7) := ⟨own_up P5.out UX.out, own_up P7.out UX.out⟩
                have HA : Hid (A = (U.alloc (.cells #[.string KS, .int .i64 (n3 : Int), .int .i64 x, .string (strOfNums l7)] 43)).drew) := hA
                have HA4 : Hid (((out.map enRow).length + [enRow y].length + ((out.map enRow).length + [enRow y].length) / 4 + 192) * 48 ≤ 281474976710656 ∧ (out.map enRow).length + [enRow y].length ≤ maxLen) := by
                  have := HK.out
                  unfold Hid maxLen; simp only [List.length_map, List.length_cons, List.length_nil]; omega
                have HA5 : Hid (w.heap.size + 1 ≤ A.heap.size) := blk_lt K9.out.rq.blk
                have HG6 : Hid (∀ (w6 : World) (v6 : Value), A.grownBy w6 (Value.ownBlock (.slice a k c)) → OwnR w6 (w.heap.size + 1) 43 4 v6 (out.map enRow ++ [enRow y]) → ∃ a6 c6, v6 = .slice a6 (k + 1) c6 ∧ (OwnB w6 u4.heap.size (.slice (some ⟨g5, o5, none⟩) 1 c5) [x] ∧ OwnB w6 u6.heap.size (.slice a7 k7 c7) l7) ∧ Hid (TolW w w6 X (some ⟨b, off, none⟩) cap j7 0 (.slice a6 (k + 1) c6) (out ++ [y]))) := by
                  intro w6 v6 hg ho6
                  obtain ⟨a6, c6, e6, _, _⟩ := (Rws.own ho6).len
                  simp only [List.length_append, List.length_map, List.length_cons, List.length_nil] at e6
                  rw [HK.out] at e6
                  subst e6
                  refine ⟨a6, c6, rfl, ⟨World.ownsRow.kept S9.out.1 hg (own_own_ne S9.out.1 K9.out.own.2 (by decide)), World.ownsRow.kept S9.out.2 hg (own_own_ne S9.out.2 K9.out.own.2 (by decide))⟩, ?_⟩
                  refine ⟨K9.out.rq.far hg (fun q hq => by have := (K9.out.own.2.lt q hq).1; omega), ?_⟩
                  rw [List.map_append]
                  exact ho6
                have hxx := Q5.out x (by simp)
                have hxw : IntKind.i64.wrap x = x := wrap64_id _ (by omega) (by omega)
                clear hA
                go_wp2_with fail
                refine wp_region_held_drew (S := (fun w' => OwnB w' u4.heap.size (.slice (some ⟨g5, o5, none⟩) 1 c5) [x] ∧ OwnB w' u6.heap.size (.slice a7 k7 c7) l7)) (by kernel_rfl) (by (try dsimp only); exact ⟨P5.out, P7.out⟩) (fun hHeld => ?_)
                refine wpAnyH_take (i := 0) (v := ?_) rfl (by kernel_rfl) (by kernel_rfl) (by kernel_rfl) (fun _ _ _ h => h) (Or.inl ⟨by kernel_rfl, ?_⟩) (by assumption) ?_
                rotate_left
                focus (intro w hSw; (try dsimp only at hSw); go_simp; (try with_reducible rfl); done)
                try simp only [Act.put, List.getElem_toArray, List.getElem_cons_zero, List.getElem_cons_succ, List.setIfInBounds_toArray, List.set_cons_zero, List.set_cons_succ]
                refine wpAnyH_take (i := 1) (v := ?_) rfl (by kernel_rfl) (by kernel_rfl) (by kernel_rfl) (fun _ _ _ h => h) (Or.inl ⟨by kernel_rfl, ?_⟩) (by assumption) ?_
                rotate_left
                focus (intro w hSw; (try dsimp only at hSw); go_simp; (try with_reducible rfl); done)
                try simp only [Act.put, List.getElem_toArray, List.getElem_cons_zero, List.getElem_cons_succ, List.setIfInBounds_toArray, List.set_cons_zero, List.set_cons_succ]
                refine wpAnyH_take (i := 2) (v := ?_) rfl (by kernel_rfl) (by kernel_rfl) (by kernel_rfl) (fun _ _ _ h => h) (Or.inl ⟨by kernel_rfl, ?_⟩) (by assumption) ?_
                rotate_left
                focus (intro w hSw; (try dsimp only at hSw); go_simp; (try with_reducible rfl); done)
                try simp only [Act.put, List.getElem_toArray, List.getElem_cons_zero, List.getElem_cons_succ, List.setIfInBounds_toArray, List.set_cons_zero, List.set_cons_succ]
                refine wpAnyH_take (i := 3) (v := ?_) rfl (by kernel_rfl) (by kernel_rfl) (by kernel_rfl) (fun _ _ _ h => h) (Or.inl ⟨by kernel_rfl, ?_⟩) (by assumption) ?_
                rotate_left
                focus (intro w hSw; (try dsimp only at hSw); go_simp; (try with_reducible rfl); done)
                try simp only [Act.put, List.getElem_toArray, List.getElem_cons_zero, List.getElem_cons_succ, List.setIfInBounds_toArray, List.set_cons_zero, List.set_cons_succ]
                refine wpAnyH_take (i := 4) (v := ?_) rfl (by kernel_rfl) (by kernel_rfl) (by kernel_rfl) (fun _ _ _ h => h) (Or.inl ⟨by kernel_rfl, ?_⟩) (by assumption) ?_
                rotate_left
                focus (intro w hSw; (try dsimp only at hSw); go_simp; (try with_reducible rfl); done)
                try simp only [Act.put, List.getElem_toArray, List.getElem_cons_zero, List.getElem_cons_succ, List.setIfInBounds_toArray, List.set_cons_zero, List.set_cons_succ]
                refine wpAnyH_take (i := 5) (v := ?_) rfl (by kernel_rfl) (by kernel_rfl) (by kernel_rfl) (fun _ _ _ h => h) (Or.inl ⟨by kernel_rfl, ?_⟩) (by assumption) ?_
                rotate_left
                focus (intro w hSw; (try dsimp only at hSw); have hz := own_head hSw.1 Q5.out; go_simp; (try with_reducible rfl); done)
                try simp only [Act.put, List.getElem_toArray, List.getElem_cons_zero, List.getElem_cons_succ, List.setIfInBounds_toArray, List.set_cons_zero, List.set_cons_succ]
                refine wpAnyH_take (i := 6) (v := ?_) rfl (by kernel_rfl) (by kernel_rfl) (by kernel_rfl) (fun _ _ _ h => h) (Or.inl ⟨by kernel_rfl, ?_⟩) (by assumption) ?_
                rotate_left
                focus (intro w hSw; (try dsimp only at hSw); go_simp; (try with_reducible rfl); done)
                try simp only [Act.put, List.getElem_toArray, List.getElem_cons_zero, List.getElem_cons_succ, List.setIfInBounds_toArray, List.set_cons_zero, List.set_cons_succ]
                refine wpAnyH_take (i := 7) (v := ?_) rfl (by kernel_rfl) (by kernel_rfl) (by kernel_rfl) (fun _ _ _ h => h) (Or.inl ⟨by kernel_rfl, ?_⟩) (by assumption) ?_
                rotate_left
                focus (intro w hSw; (try dsimp only at hSw); go_simp; (try with_reducible rfl); done)
                try simp only [Act.put, List.getElem_toArray, List.getElem_cons_zero, List.getElem_cons_succ, List.setIfInBounds_toArray, List.set_cons_zero, List.set_cons_succ]
                refine wpAnyH_take (i := 8) (v := ?_) rfl (by kernel_rfl) (by kernel_rfl) (by kernel_rfl) (fun _ _ _ h => h) (Or.inl ⟨by kernel_rfl, ?_⟩) (by assumption) ?_
                rotate_left
                focus (intro w hSw; (try dsimp only at hSw); have hz := run_convert_octs l7 _ w (Octs.own hSw.2 Q7.out); go_simp; (try with_reducible rfl); done)
                try simp only [Act.put, List.getElem_toArray, List.getElem_cons_zero, List.getElem_cons_succ, List.setIfInBounds_toArray, List.set_cons_zero, List.set_cons_succ]
                refine wpAnyH_take (i := 9) (v := ?_) rfl (by kernel_rfl) (by kernel_rfl) (by kernel_rfl) (fun _ _ _ h => h) (Or.inl ⟨by kernel_rfl, ?_⟩) (by assumption) ?_
                rotate_left
                focus (intro w hSw; (try dsimp only at hSw); go_simp; (try with_reducible rfl); done)
                try simp only [Act.put, List.getElem_toArray, List.getElem_cons_zero, List.getElem_cons_succ, List.setIfInBounds_toArray, List.set_cons_zero, List.set_cons_succ]
                refine wpAnyH_ready (rs := [10]) (by kernel_rfl) (by simp) ?_
                refine AllReadyH.cons rfl (fun K hK => ?_) AllReadyH.nil
                go_simp
                rw [← HA.out]
                refine hK.out _ _ (by (try dsimp only); exact S9.out) (fun hHeld => ?_)
                clear hK K
                try simp only [Act.put, List.getElem_toArray, List.getElem_cons_zero, List.getElem_cons_succ, List.setIfInBounds_toArray, List.set_cons_zero, List.set_cons_succ]
                refine wpAnyH_ready (rs := [11]) (by kernel_rfl) (by simp) ?_
                refine AllReadyH.cons rfl (fun K hK => ?_) AllReadyH.nil
                refine step_append_rows _ rfl (.tmp 87) (.tmp 97) 22 43 _ 4 48 rfl Tryz.underlying22 Tryz.info43 rfl (by decide) (w.heap.size + 1) (.slice a k c) (out.map enRow) rfl K9.out.own _ [enRow y] rfl HR2.out (enRow_one y) HA4.out.1 HA4.out.2 HA5.out ?_
                intro v6 w6 o6 g6
                obtain ⟨a6', c6', rfl, t0, hz⟩ := HG6.out _ _ g6 o6
                refine hK.out _ _ (by (try dsimp only); exact t0) (fun hHeld => ?_)
                clear hK K
                try simp only [Act.put, List.getElem_toArray, List.getElem_cons_zero, List.getElem_cons_succ, List.setIfInBounds_toArray, List.set_cons_zero, List.set_cons_succ]
                refine wpAnyH_ready (rs := [12]) (by kernel_rfl) (by simp) ?_
                refine AllReadyH.cons rfl (fun K hK => ?_) AllReadyH.nil
                go_simp
                refine hK.out _ _ (by (try dsimp only); exact t0) (fun hHeld => ?_)
                clear hK K
                try simp only [Act.put, List.getElem_toArray, List.getElem_cons_zero, List.getElem_cons_succ, List.setIfInBounds_toArray, List.set_cons_zero, List.set_cons_succ]
                refine wpAnyH_done (by kernel_rfl) ?_ _
                go_wp2_with fail
                obtain ⟨f', rfl⟩ : ∃ f', f = f' + 1 := ⟨f - 1, by have := TI.out.fu; omega⟩
                refine ⟨⟨f', j7, k + 1, key.take n1 ++ l6, out ++ [y], a6', c6', rfl, by rw [HKS.out], by omega, by unfold Hid; rw [List.length_append, HK.out]; rfl, ?_⟩, by simp [sliceLen]; omega⟩
                refine ⟨hz.out, by have := TI.out.fu; omega, ?_, ?_⟩
                · rw [TI.out.eq, toldP_step HNE.out HEN.out, HYE.out]
                · intro q hq
                  rcases List.mem_append.1 hq with h | h
                  · exact TI.out.ko q (List.mem_of_mem_take h)
                  · exact Q6.out q h
            · have HE : Hid (toldP F [] [] X = []) := HBAD.out (SV.out.bad hy)
              have hy1 : (y7 == 0) = false := by simp [hy]
              have hy2 : (y7 != 0) = true := by simp [hy]
              clear HBAD
              go_wp2
              go_ret
              rw [HE.out]
              exact ⟨none, 0, 0, rfl, ⟨rfl, OwnR.nil _ _ _ _⟩, HU.out⟩
          · have hk4' : ¬ (k : Int) ≤ 64 := by omega
            have HE : Hid (toldP F [] [] X = out) := by
              unfold Hid
              rw [TI.out.eq, toldP_stop (by have := TI.out.fu; omega) (.inr (by rw [HK.out]; omega))]
            have HU : Hid (Below w.heap.size w wr) := TI.out.tw.rq.up
            go_wp2
            go_ret
            rw [HE.out]
            exact ⟨a, k, c, rfl, ⟨HK.out.symm, TI.out.tw.own.mono (by omega)⟩, HU⟩
        · have hj' : ¬ (j : Int) < (M : Int) := by omega
          have HE : Hid (toldP F [] [] X = out) := by
            unfold Hid
            rw [TI.out.eq, toldP_stop (by have := TI.out.fu; omega) (.inl (List.drop_of_length_le (by rw [HXL.out]; omega)))]
          have HU : Hid (Below w.heap.size w wr) := TI.out.tw.rq.up
          go_wp2
          go_ret
          rw [HE.out]
          exact ⟨a, k, c, rfl, ⟨HK.out.symm, TI.out.tw.own.mono (by omega)⟩, HU⟩
end Go.Proofs.YtekoniaobmapdaaGreat

/- The document's Decode of layer 9. -/
namespace Go.Proofs.YtekoniaobmapdaaGreat
open Go.RowKit SumPlain
set_option linter.unusedVariables false
set_option linter.unusedSimpArgs false

theorem encB_oct (l : List En) : OctL (encB l).1 := by
  unfold encB
  by_cases h : chkB l = 0
  · rw [if_pos h]
    obtain ⟨_, _, hm⟩ := chkB_may h
    refine guard_octet _ ?_
    unfold blockO
    refine OctL.app (bodyO_oct l 0 [] hm) (OctL.app (tailO_oct l 0 [] 0) ?_)
    intro y hy
    simp at hy
    omega
  · rw [if_neg h]
    intro y hy
    cases hy
theorem bare_oct {l : List Int} (h : OctL l) : OctL (bareOf l).1 := by
  unfold bareOf
  split
  · intro y hy; cases hy
  · split
    · exact fun y hy => h y (List.mem_of_mem_take hy)
    · intro y hy; cases hy
theorem bare_le (l : List Int) : (bareOf l).1.length ≤ l.length := by
  unfold bareOf
  split
  · simp
  · split
    · simp
    · simp

/-- How the document's Decode ends. -/
def DecE (d : List En × Int) (w : World) (e : Ending) (w' : World) : Prop := ∃ a n c, e = .returned (.tuple #[.slice a n c, .int .i64 d.2]) ∧ Hid (n = d.1.length ∧ OwnR w' w.heap.size 43 4 (.slice a n c) (d.1.map enRow)) ∧ Hid (Below w.heap.size w w')

set_option maxHeartbeats 2000000 in
set_option maxRecDepth 100000 in
theorem refDecB_any (B : List Int) (v : Value) (w : World) (hv : Octs w v B) (hl : B.length ≤ 140737488351232) :
    Calls Tryz.prog 62 #[v] w fun e w' => DecE (decB B) w e w' := by
  have HV : Hid (Octs w v B) := hv
  have HC := refBare_any B v w hv hl
  clear hv
  by_cases h0 : (bareOf B).2 = 0
  · rw [h0] at HC
    have HL : Hid ((bareOf B).1.length ≤ 140737488355328) := by have := bare_le B; unfold Hid; omega
    go_enter Tryz.func62, Tryz.ntmps62
    go_wp2_with fail
    refine HC.mono ?_
    rintro e w1 ⟨v1, rfl, O1, b1⟩
    have U1 : Hid (Below w.heap.size w w1) := b1
    have HT := refTold_any (bareOf B).1 v1 w1 (Octs.own O1 (bare_oct HV.out.1)) HL.out
    clear HC O1 b1
    go_wp2_with fail
    refine HT.mono ?_
    rintro e w2 ⟨a2, n2, c2, rfl, P2, U2⟩
    have HE : Hid (EntsR w2 (.slice a2 n2 c2) (toldB (bareOf B).1)) := Rws.own P2.out.2
    have HD : Hid (decB B = if encB (toldB (bareOf B).1) = (B, 0) then (toldB (bareOf B).1, 0) else ([], 21)) := by unfold Hid decB; rw [if_pos h0]
    have U2' : Hid (Below w.heap.size w w2) := up_trans U1.out U2.out
    have S1 : Hid (w.heap.size ≤ w1.heap.size) := U1.out.size
    clear HT U2 U1 HL
    generalize toldB (bareOf B).1 = L at *
    have HN := refEncB_any L _ w2 HE.out
    by_cases h2 : (encB L).2 = 0
    · rw [h2] at HN
      go_wp2_with fail
      refine HN.mono ?_
      rintro e w3 ⟨v3, rfl, O3, b3⟩
      have U3 : Hid (Below w2.heap.size w2 w3) := b3
      have hk := run_convert_octs (encB L).1 v3 w3 (Octs.own O3 (encB_oct L))
      have hkb := run_convert_octs B v w3 (HV.out.up (up_trans U2'.out b3))
      have hs := str_eq (encB L).1 B (encB_oct L) HV.out.1
      clear HN O3 b3
      by_cases h3 : (encB L).1 = B
      · rw [decide_eq_true h3] at hs
        have HF : Hid (decB B = (L, 0)) := by
          unfold Hid
          rw [HD.out, if_pos (Prod.ext h3 h2)]
        go_wp2
        go_ret2
        rw [HF.out]
        exact ⟨a2, n2, c2, rfl, ⟨P2.out.1, (P2.out.2.up U3.out).mono S1.out⟩, up_trans U2'.out U3.out⟩
      · rw [decide_eq_false h3] at hs
        have HF : Hid (decB B = ([], 21)) := by
          unfold Hid
          rw [HD.out, if_neg (fun e => h3 (by rw [e]))]
        go_wp2
        go_ret2
        rw [HF.out]
        exact ⟨none, 0, 0, rfl, ⟨rfl, OwnR.nil _ _ _ _⟩, up_trans U2'.out U3.out⟩
    · have HF : Hid (decB B = ([], 21)) := by
        unfold Hid
        rw [HD.out, if_neg (fun e => h2 (by rw [e]))]
      generalize (encB L).2 = q at *
      have hq1 : (q == 0) = false := by simp [h2]
      have hq2 : (q != 0) = true := by simp [h2]
      go_wp2_with fail
      refine HN.mono ?_
      rintro e w3 ⟨v3, rfl, O3, b3⟩
      have U3 : Hid (Below w2.heap.size w2 w3) := b3
      clear HN O3 b3
      go_wp2
      go_ret2
      rw [HF.out]
      exact ⟨none, 0, 0, rfl, ⟨rfl, OwnR.nil _ _ _ _⟩, up_trans U2'.out U3.out⟩
  · have HF : Hid (decB B = ([], (bareOf B).2)) := by unfold Hid decB; rw [if_neg h0]
    generalize (bareOf B).2 = q at *
    have hq1 : (q == 0) = false := by simp [h0]
    have hq2 : (q != 0) = true := by simp [h0]
    go_enter Tryz.func62, Tryz.ntmps62
    go_wp2_with fail
    refine HC.mono ?_
    rintro e w1 ⟨v1, rfl, O1, b1⟩
    have U1 : Hid (Below w.heap.size w w1) := b1
    clear HC O1 b1
    go_wp2
    go_ret2
    rw [HF.out]
    exact ⟨none, 0, 0, rfl, ⟨rfl, OwnR.nil _ _ _ _⟩, U1.out⟩
end Go.Proofs.YtekoniaobmapdaaGreat

/- The document's Seek of layer 9. -/
namespace Go.Proofs.YtekoniaobmapdaaGreat
open Go.RowKit SumPlain
set_option linter.unusedVariables false
set_option linter.unusedSimpArgs false

theorem results_ent3 {fn : Func} {q r u : Nat} (h : fn.results = #[.cell q 43, .tmp r, .tmp u]) (tmps : Array Value) (w : World) {N : Nat} {a b c d : Value} (ht : tmps.getD q undef = .pointer (some ⟨N, 0, none⟩))
    (hc : w.heap[N]? = some (.cells #[a, b, c, d] 43)) : (results fn tmps).run Tryz.prog w = .ok (.tuple #[.agg #[a, b, c, d], tmps.getD r undef, tmps.getD u undef]) w := by
  have c0 := blk_cell hc 0 a rfl
  have c1 := blk_cell hc 1 b rfl
  have c2 := blk_cell hc 2 c rfl
  have c3 := blk_cell hc 3 d rfl
  have ht' : tmps[q]?.getD undef = .pointer (some ⟨N, 0, none⟩) := by simpa using ht
  simp only [results, h]
  simp [ht', go_sem, c0, c1, c2, c3]

end Go.Proofs.YtekoniaobmapdaaGreat

/- Copies, spoiling, numbers: the law's own small functions of layer 9. -/
namespace Go.Proofs.YtekoniaobmapdaaGreat
open Go.RowKit SumPlain
set_option linter.unusedVariables false
set_option linter.unusedSimpArgs false

set_option maxHeartbeats 1000000 in
theorem copyEnts_any (l : List En) (v : Value) (w : World) (hv : EntsR w v l) (hl : l.length ≤ 4398046511104) :
    Calls Tryz.prog 4 #[v] w fun e w' => ∃ a n c, e = .returned (.slice a n c) ∧ EntsR w' (.slice a n c) l ∧ Below w.heap.size w w' ∧ ∀ b, (Value.slice a n c).ownBlock = some b → w.heap.size ≤ b := by
  have HV : Hid (Rws 4 w v (l.map enRow)) := hv
  have HB : Hid ((((([] : List (List Value)).length + (l.map enRow).length) + (([] : List (List Value)).length + (l.map enRow).length) / 4 + 192) * 48 ≤ 281474976710656) ∧ ([] : List (List Value)).length + (l.map enRow).length ≤ maxLen) := by
    unfold Hid
    rw [List.length_map]
    unfold maxLen
    simp only [List.length_nil]
    omega
  clear hv
  go_enter Tryz.func4, Tryz.ntmps4
  go_wp2_with (at_builtin; refine wpList_append_rows w rfl _ _ 22 43 _ 4 48 rfl Tryz.underlying22 Tryz.info43 rfl (by decide) w.heap.size (.slice none 0 0) [] rfl (OwnR.nil _ _ _ _) v (l.map enRow) rfl HV.out ?c1 HB.out.1 HB.out.2 (Nat.le_refl _) ?_)
  case c1 =>
    intro cs hcs u hu
    obtain ⟨s, _, rfl⟩ := List.mem_map.1 hcs
    exact enRow_one s _ (by simp) u hu
  intro v' w' hown hg
  have HT : Hid (EntsR w' v' l) := Rws.own hown
  have HL : Hid (∀ b, v'.ownBlock = some b → w.heap.size ≤ b) := fun b hb => (hown.2.lt b hb).1
  have HU : Hid (Below w.heap.size w w') := (Below.refl _ _).grown hg (Nat.le_refl _) (by simp [Value.ownBlock])
  clear hown hg
  obtain ⟨a, c, e, _, _⟩ := HT.out.len
  obtain ⟨n, hn⟩ : ∃ n, n = l.length := ⟨_, rfl⟩
  rw [← hn] at e
  subst e
  clear hn
  go_wp2
  go_ret
  exact ⟨a, n, c, rfl, HT.out, HU.out, HL.out⟩

end Go.Proofs.YtekoniaobmapdaaGreat

/- The leaves: octets copied, compared, spoiled; a filter as the law copies and compares it. -/
namespace Go.Proofs.YtekoniaobmapdaaGreat
open Go.RowKit
set_option linter.unusedVariables false
set_option maxRecDepth 20000

theorem set2_blkB {w : World} {N : Nat} {t : TypeId} {x0 x1 : Value} (h : w.heap[N]? = some (.cells #[x0, x1] t)) (a b : Value) : (set2 w N a b).heap[N]? = some (.cells #[a, b] t) :=
  blk_set (blk_set h 0 a) 1 b
theorem set2_grownB (w : World) (N : Nat) (a b : Value) : w.grownBy (set2 w N a b) (some N) :=
  grown_trans (grown_set w ⟨N, 0, none⟩ a) (grown_set _ ⟨N, 1, none⟩ b)

end Go.Proofs.YtekoniaobmapdaaGreat

/- The hash of a key: the program's and the document's. -/
namespace Go.Proofs.YtekoniaobmapdaaGreat
open Go.RowKit
set_option linter.unusedVariables false
set_option maxRecDepth 20000

/-- One octet more. -/
def hashS (h x : Int) : Int := bits .xor .u64 h x * 1099511628211 % 18446744073709551616
def hashL (l : List Int) : Int := l.foldl hashS 14695981039346656037

theorem hash_nil : hashL [] = 14695981039346656037 := rfl
theorem hash_snoc (l : List Int) (x : Int) : hashL (l ++ [x]) = hashS (hashL l) x := by unfold hashL; rw [List.foldl_append]; rfl
theorem hash_u64 (l : List Int) : 0 ≤ hashL l ∧ hashL l ≤ 18446744073709551615 := by
  rcases List.eq_nil_or_concat l with rfl | ⟨r, x, rfl⟩
  · rw [hash_nil]; omega
  · rw [List.concat_eq_append, hash_snoc]; unfold hashS; omega

theorem wrap64 (n : Int) : IntKind.u64.wrap n = n % 18446744073709551616 := by simp [IntKind.wrap, IntKind.bits, IntKind.signed]
theorem val_u64 {a b : Int} (h : a = b) : Value.int .u64 a = .int .u64 b := by rw [h]

set_option maxHeartbeats 400000 in
theorem hash_any (l : List Int) (hx : OctL l) (hm : l.length ≤ 140737488355328) (w : World) :
    Calls Tryz.prog 87 #[.string (strOfNums l)] w fun e w' => e = .returned (.int .u64 (hashL l)) ∧ w' = w := by
  have hsz := str_size l
  go_enter Tryz.func87, Tryz.ntmps87
  go_wp2
  go_loopw [3, 7] (fun h i wr => ∃ k : Nat, k ≤ l.length ∧ i = .int .i64 k ∧ h = .int .u64 (hashL (l.take k)) ∧ wr = w) (fun _ i _ => l.length - (intOf i).toNat)
  case atStart => exact ⟨0, Nat.zero_le _, rfl, rfl, rfl⟩
  case round =>
    obtain ⟨k, hk, rfl, rfl, rfl⟩ := hrel
    by_cases hlt : k < l.length
    · have hlt' : (k : Int) < (l.length : Int) := by omega
      have hj : k < (strOfNums l).size := by omega
      have hy := str_at l hx k hj
      obtain ⟨y0, y1⟩ : 0 ≤ l.getD k 0 ∧ l.getD k 0 ≤ 255 := hx _ (by simp [List.getD, hlt])
      have HS : Hid (hashL (l.take (k + 1)) = hashS (hashL (l.take k)) (l.getD k 0)) := by unfold Hid; rw [take_snoc l k 0 hlt, hash_snoc]
      obtain ⟨z0, z1⟩ := hash_u64 (l.take k)
      generalize hashL (l.take k) = h at *
      generalize l.getD k 0 = x at *
      go_wp2
      exact ⟨⟨k + 1, by omega, by go_num, val_u64 (by rw [HS.out, hashS, wrap64]), trivial⟩, by simp [intOf]; omega⟩
    · have hlt' : ¬ (k : Int) < (l.length : Int) := by omega
      obtain rfl : k = l.length := by omega
      rw [List.take_length]
      go_wp2
      go_ret
      exact ⟨rfl, rfl⟩

set_option maxHeartbeats 400000 in
theorem refHash_any (l : List Int) (hx : OctL l) (hm : l.length ≤ 140737488355328) (w : World) :
    Calls Tryz.prog 72 #[.string (strOfNums l)] w fun e w' => e = .returned (.int .u64 (hashL l)) ∧ w' = w := by
  have hsz := str_size l
  go_enter Tryz.func72, Tryz.ntmps72
  go_wp2
  go_loopw [3, 4] (fun h i wr => ∃ k : Nat, k ≤ l.length ∧ i = .int .i64 k ∧ h = .int .u64 (hashL (l.take k)) ∧ wr = w) (fun _ i _ => l.length - (intOf i).toNat)
  case atStart => exact ⟨0, Nat.zero_le _, rfl, rfl, rfl⟩
  case round =>
    obtain ⟨k, hk, rfl, rfl, rfl⟩ := hrel
    by_cases hlt : k < l.length
    · have hlt' : (k : Int) < (l.length : Int) := by omega
      have hj : k < (strOfNums l).size := by omega
      have hy := str_at l hx k hj
      obtain ⟨y0, y1⟩ : 0 ≤ l.getD k 0 ∧ l.getD k 0 ≤ 255 := hx _ (by simp [List.getD, hlt])
      have HS : Hid (hashL (l.take (k + 1)) = hashS (hashL (l.take k)) (l.getD k 0)) := by unfold Hid; rw [take_snoc l k 0 hlt, hash_snoc]
      obtain ⟨z0, z1⟩ := hash_u64 (l.take k)
      generalize hashL (l.take k) = h at *
      generalize l.getD k 0 = x at *
      go_wp2
      exact ⟨⟨k + 1, by omega, by go_num, val_u64 (by rw [HS.out, hashS, wrap64]), trivial⟩, by simp [intOf]; omega⟩
    · have hlt' : ¬ (k : Int) < (l.length : Int) := by omega
      obtain rfl : k = l.length := by omega
      rw [List.take_length]
      go_wp2
      go_ret
      exact ⟨rfl, rfl⟩
end Go.Proofs.YtekoniaobmapdaaGreat
