/- The walk of BloomTells. -/
import Derived.Test.YtbhlphhgibikeaaLOct
import Derived.Test.YtbhlphhgibikeaaLTxt
import Derived.Deep.RegionHeld3
namespace Go.Proofs.Ytbhlphhgibikeaa
open Go.RowKit
set_option linter.unusedVariables false
set_option linter.unusedSimpArgs false

theorem make_law (keys : List (List Int)) (hk : KeyL keys) (each : Int) (v : Value) (W : World) (h : TextsW W v keys) :
    Calls Try.prog 11 #[v, .int .i64 each] W fun e w' => ∃ a n c, e = .returned (.tuple #[.agg #[.int .i64 (makeR keys each).1, .slice a n c], .int .i64 (errM each keys.length)]) ∧ Hid (Octs w' (.slice a n c) (makeR keys each).2) ∧ Hid (Below W.heap.size W w') := by
  refine (make_any keys hk each v W h).mono ?_
  rintro e w' ⟨a, n, c, rfl, _, ho, hb⟩
  exact ⟨a, n, c, rfl, Octs.own ho (makeR_oct keys each), hb⟩
theorem refMake_law (keys : List (List Int)) (hk : KeyL keys) (each : Int) (v : Value) (W : World) (h : TextsW W v keys) :
    Calls Try.prog 12 #[v, .int .i64 each] W fun e w' => ∃ a n c, e = .returned (.tuple #[.agg #[.int .i64 (makeR keys each).1, .slice a n c], .int .i64 (errM each keys.length)]) ∧ Hid (Octs w' (.slice a n c) (makeR keys each).2) ∧ Hid (Below W.heap.size W w') := by
  refine (refMake_any keys hk each v W h).mono ?_
  rintro e w' ⟨a, n, c, rfl, _, ho, hb⟩
  exact ⟨a, n, c, rfl, Octs.own ho (makeR_oct keys each), hb⟩
theorem has_law (key : List Int) (hx : OctL key) (hm : key.length ≤ 140737488355328) (k : Int) (l : List Int) (a : Option Addr) (n c : Nat) (W : World) (hn : n = l.length) (h : Octs W (.slice a n c) l) :
    Calls Try.prog 13 #[.agg #[.int .i64 k, .slice a n c], .string (strOfNums key)] W fun e w' => e = .returned (.tuple #[.bool (mayB k l.length && hasF (hashL key) k.toNat l.length l), .int .i64 (chkE k l.length)]) ∧ Hid (Below W.heap.size W w') := by
  subst hn
  exact has_any key hx hm k l a c W h
theorem refHas_law (key : List Int) (hx : OctL key) (hm : key.length ≤ 140737488355328) (k : Int) (l : List Int) (a : Option Addr) (n c : Nat) (W : World) (hn : n = l.length) (h : Octs W (.slice a n c) l) :
    Calls Try.prog 14 #[.agg #[.int .i64 k, .slice a n c], .string (strOfNums key)] W fun e w' => e = .returned (.tuple #[.bool (mayB k l.length && hasF (hashL key) k.toNat l.length l), .int .i64 (chkE k l.length)]) ∧ Hid (Below W.heap.size W w') := by
  subst hn
  exact refHas_any key hx hm k l a c W h

set_option maxHeartbeats 4000000 in
theorem tells_walk (keys : List (List Int)) (hk : KeyL keys) (each k : Int) (lf key : List Int) (fa : Option Addr) (fc : Nat) (v : Value) (w : World) (hv : TextsW w v keys) (hkl : keys.length ≤ 8796093022208) (hf : Octs w (.slice fa lf.length fc) lf) (hfl : lf.length ≤ 140737488351232) (hx : OctL key) (hm : key.length ≤ 140737488355328) :
    Calls Try.prog 3 #[v, .int .i64 each, .agg #[.int .i64 k, .slice fa lf.length fc], .string (strOfNums key)] w fun e w' => e = .returned (.bool true) ∧ Below w.heap.size w w' := by
  obtain ⟨ka, kc, rfl, _, _⟩ := hv.len
  have HA : Hid (∀ w : World, Calls Try.prog 20 #[] w fun e w' => e = .returned (.bool true) ∧ Hid (Below w.heap.size w w')) := fun w => alive_any w
  have HN : Hid (∀ (x : Int) (w : World), Calls Try.prog 18 #[.int .i64 x] w fun e w' => e = .returned (.int .i64 x) ∧ w' = w) := fun x w => num_any x w
  have HSM : Hid (∀ (k : Int) (l : List Int) (a1 a2 : Option Addr) (n1 n2 c1 c2 : Nat) (W : World), Octs W (.slice a1 n1 c1) l → Octs W (.slice a2 n2 c2) l → Calls Try.prog 17 #[.agg #[.int .i64 k, .slice a1 n1 c1], .agg #[.int .i64 k, .slice a2 n2 c2]] W fun e w' => e = .returned (.bool true) ∧ Hid (Below W.heap.size W w')) := same_law
  have HSS : Hid (∀ (v u : Value) (W : World), TextsW W v keys → TextsW W u keys → Calls Try.prog 19 #[v, u] W fun e w' => e = .returned (.bool true) ∧ Hid (Below W.heap.size W w')) := fun v u W h1 h2 => sameTexts_self keys v u W h1 h2
  have HH1 : Hid (∀ W : World, Calls Try.prog 15 #[.string (strOfNums key)] W fun e w' => e = .returned (.int .u64 (hashL key)) ∧ w' = W) := fun W => hash_any key hx hm W
  have HH2 : Hid (∀ W : World, Calls Try.prog 16 #[.string (strOfNums key)] W fun e w' => e = .returned (.int .u64 (hashL key)) ∧ w' = W) := fun W => refHash_any key hx hm W
  have HMK := make_law keys hk each
  have HMR := refMake_law keys hk each
  have HHS := has_law key hx hm k lf
  have HHR := refHas_law key hx hm k lf
  have HOL : Hid (OctL lf) := hf.1
  have HOF : ∀ W : World, Octs W (.slice fa lf.length fc) lf → Calls Try.prog 10 #[.agg #[.int .i64 k, .slice fa lf.length fc]] W fun e w' => ∃ a' n' c', e = .returned (.agg #[.int .i64 k, .slice a' n' c']) ∧ Hid (n' = lf.length) ∧ Hid (OwnB w' W.heap.size (.slice a' n' c') lf) ∧ Hid (Below W.heap.size W w') := fun W h => of_any k lf fa fc W h (by omega)
  have HCT : Hid (∀ (v : Value) (W : World), TextsW W v keys → Calls Try.prog 9 #[v] W fun e w' => ∃ a n c, e = .returned (.slice a n c) ∧ TextsW w' (.slice a n c) keys ∧ Below W.heap.size W w' ∧ ∀ b, (Value.slice a n c).ownBlock = some b → W.heap.size ≤ b) := fun v W h => copyTexts_any keys v W h hkl
  have HF : Hid (Octs w (.slice fa lf.length fc) lf) := hf
  have HKT : Hid (TextsW w (.slice ka keys.length kc) keys) := hv
  clear hf hv hfl hkl hk
  obtain ⟨hb, hhb⟩ : ∃ hb, hb = (mayB k lf.length && hasF (hashL key) k.toNat lf.length lf) := ⟨_, rfl⟩
  rw [← hhb] at HHS HHR
  clear hhb
  generalize hashL key = hsh at *
  generalize (makeR keys each).1 = mk at *
  generalize (makeR keys each).2 = ml at *
  generalize errM each keys.length = em at *
  generalize chkE k lf.length = he at *
  obtain ⟨nf, hnf⟩ : ∃ nf, nf = lf.length := ⟨_, rfl⟩
  obtain ⟨nk, hnk⟩ : ∃ nk, nk = keys.length := ⟨_, rfl⟩
  rw [← hnf] at HF HOF ⊢
  rw [← hnk] at HKT ⊢
  have HNF : Hid (nf = lf.length) := hnf
  clear hnf hnk
  have HMK' := (show Hid _ from HMK)
  clear HMK
  have HMR' := (show Hid _ from HMR)
  clear HMR
  have HHS' := (show Hid _ from HHS)
  clear HHS
  have HHR' := (show Hid _ from HHR)
  clear HHR
  have HOF' := (show Hid _ from HOF)
  clear HOF
  obtain ⟨N, hN⟩ : ∃ N, N = w.heap.size := ⟨_, rfl⟩
  have BA : Hid ((w.alloc (.cells #[.int .i64 k, .slice fa nf fc] 25)).heap[N]? = some (.cells #[.int .i64 k, .slice fa nf fc] 25)) := by rw [hN]; exact blk_new _ _
  have SA : Hid ((w.alloc (.cells #[.int .i64 k, .slice fa nf fc] 25)).heap.size = N + 1) := by unfold Hid; rw [hN]; simp
  have UA : Hid (Below w.heap.size w (w.alloc (.cells #[.int .i64 k, .slice fa nf fc] 25))) := up_alloc _ _
  have HSW : Hid (w.heap.size = N) := hN.symm
  have H9a : Hid (Calls Try.prog 9 #[.slice ka nk kc] (w.alloc (.cells #[.int .i64 k, .slice fa nf fc] 25)).drew fun e w' => ∃ a n c, e = .returned (.slice a n c) ∧ (w'.cell? ⟨N, 0, none⟩ = some (.int .i64 k) ∧ w'.cell? ⟨N, 1, none⟩ = some (.slice fa nf fc)) ∧ N < w'.heap.size ∧ Hid (TextsW w' (.slice a n c) keys) ∧ Hid (Below (w.alloc (.cells #[.int .i64 k, .slice fa nf fc] 25)).heap.size (w.alloc (.cells #[.int .i64 k, .slice fa nf fc] 25)) w')) := by
    have hd : Below (w.alloc (.cells #[.int .i64 k, .slice fa nf fc] 25)).heap.size (w.alloc (.cells #[.int .i64 k, .slice fa nf fc] 25)) (w.alloc (.cells #[.int .i64 k, .slice fa nf fc] 25)).drew := up_dr (Below.refl _ _)
    refine (HCT.out _ _ ((HKT.out.up UA.out).up hd)).mono ?_
    rintro e w' ⟨a, n, c, rfl, ht, hb, hl⟩
    have d := blk_up BA.out (up_trans hd hb)
    exact ⟨a, n, c, rfl, ⟨blk_cell d 0 _ rfl, blk_cell d 1 _ rfl⟩, blk_lt d, ht, up_trans hd hb⟩
  have H9b : Hid (Calls Try.prog 9 #[.slice ka nk kc] ((w.alloc (.cells #[.int .i64 k, .slice fa nf fc] 25)).alloc (.cells #[.int .i64 0, .slice none 0 0] 27)).drew fun e w' => ∃ a n c, e = .returned (.slice a n c) ∧ (w'.cell? ⟨N, 0, none⟩ = some (.int .i64 k) ∧ w'.cell? ⟨N, 1, none⟩ = some (.slice fa nf fc)) ∧ N < w'.heap.size ∧ Hid (TextsW w' (.slice a n c) keys) ∧ Hid (Below (w.alloc (.cells #[.int .i64 k, .slice fa nf fc] 25)).heap.size (w.alloc (.cells #[.int .i64 k, .slice fa nf fc] 25)) w') ∧ Hid (w'.heap[(w.alloc (.cells #[.int .i64 k, .slice fa nf fc] 25)).heap.size]? = some (.cells #[.int .i64 0, .slice none 0 0] 27)) ∧ Hid (∀ b, (Value.slice a n c).ownBlock = some b → (w.alloc (.cells #[.int .i64 k, .slice fa nf fc] 25)).heap.size + 1 ≤ b)) := by
    have hd : Below (w.alloc (.cells #[.int .i64 k, .slice fa nf fc] 25)).heap.size (w.alloc (.cells #[.int .i64 k, .slice fa nf fc] 25)) ((w.alloc (.cells #[.int .i64 k, .slice fa nf fc] 25)).alloc (.cells #[.int .i64 0, .slice none 0 0] 27)).drew := up_dr (up_alloc _ _)
    have hz : ((w.alloc (.cells #[.int .i64 k, .slice fa nf fc] 25)).alloc (.cells #[.int .i64 0, .slice none 0 0] 27)).drew.heap[(w.alloc (.cells #[.int .i64 k, .slice fa nf fc] 25)).heap.size]? = some (.cells #[.int .i64 0, .slice none 0 0] 27) := blk_up (blk_new _ _) (up_dr (Below.refl _ _))
    refine (HCT.out _ _ ((HKT.out.up UA.out).up hd)).mono ?_
    rintro e w' ⟨a, n, c, rfl, ht, hb, hl⟩
    have d := blk_up BA.out (up_trans hd hb)
    exact ⟨a, n, c, rfl, ⟨blk_cell d 0 _ rfl, blk_cell d 1 _ rfl⟩, blk_lt d, ht, up_trans hd hb, blk_up hz hb, fun b hb => by have := hl b hb; rw [show ((w.alloc (.cells #[.int .i64 k, .slice fa nf fc] 25)).alloc (.cells #[.int .i64 0, .slice none 0 0] 27)).drew.heap.size = (w.alloc (.cells #[.int .i64 k, .slice fa nf fc] 25)).heap.size + 1 by simp] at this; exact this⟩
  have H10 : Hid (∀ W : World, Below (w.alloc (.cells #[.int .i64 k, .slice fa nf fc] 25)).heap.size (w.alloc (.cells #[.int .i64 k, .slice fa nf fc] 25)) W → Calls Try.prog 10 #[.agg #[.int .i64 k, .slice fa nf fc]] W fun e w' => ∃ a n c, e = .returned (.agg #[.int .i64 k, .slice a n c]) ∧ (w'.cell? ⟨N, 0, none⟩ = some (.int .i64 k) ∧ w'.cell? ⟨N, 1, none⟩ = some (.slice fa nf fc)) ∧ Hid (n = lf.length) ∧ Hid (OwnB w' W.heap.size (.slice a n c) lf) ∧ Hid (Below W.heap.size W w')) := by
    intro W hW
    refine (HOF'.out W ((HF.out.up UA.out).up hW)).mono ?_
    rintro e w' ⟨a, n, c, rfl, hn, ho, hb⟩
    have d := blk_up BA.out (up_trans hW hb.out)
    exact ⟨a, n, c, rfl, ⟨blk_cell d 0 _ rfl, blk_cell d 1 _ rfl⟩, hn.out.trans HNF.out, ho, hb⟩
  have H10z : Hid (∀ (W : World) (M : Nat), Below (w.alloc (.cells #[.int .i64 k, .slice fa nf fc] 25)).heap.size (w.alloc (.cells #[.int .i64 k, .slice fa nf fc] 25)) W → W.heap[M]? = some (.cells #[.int .i64 0, .slice none 0 0] 27) → Calls Try.prog 10 #[.agg #[.int .i64 k, .slice fa nf fc]] W fun e w' => ∃ a n c, e = .returned (.agg #[.int .i64 k, .slice a n c]) ∧ (w'.cell? ⟨N, 0, none⟩ = some (.int .i64 k) ∧ w'.cell? ⟨N, 1, none⟩ = some (.slice fa nf fc)) ∧ w'.cell? ⟨M, 0, none⟩ = some (.int .i64 0) ∧ w'.cell? ⟨M, 1, none⟩ = some (.slice none 0 0) ∧ w'.frozen? ⟨M, 0, none⟩ = false ∧ w'.frozen? ⟨M, 1, none⟩ = false ∧ Hid (w'.heap[M]? = some (.cells #[.int .i64 0, .slice none 0 0] 27)) ∧ Hid (n = lf.length) ∧ Hid (OwnB w' W.heap.size (.slice a n c) lf) ∧ Hid (Below W.heap.size W w')) := by
    intro W M hW hM
    refine (H10.out W hW).mono ?_
    rintro e w' ⟨a, n, c, rfl, hc, hn, ho, hb⟩
    have d := blk_up hM hb.out
    exact ⟨a, n, c, rfl, hc, blk_cell d 0 _ rfl, blk_cell d 1 _ rfl, blk_frozen d 0, blk_frozen d 1, d, hn, ho, hb⟩
  have q0 : (w.alloc (.cells #[.int .i64 k, .slice fa nf fc] 25)).cell? ⟨N, 0, none⟩ = some (.int .i64 k) := blk_cell BA.out 0 _ rfl
  have q1 : (w.alloc (.cells #[.int .i64 k, .slice fa nf fc] 25)).cell? ⟨N, 1, none⟩ = some (.slice fa nf fc) := blk_cell BA.out 1 _ rfl
  have qA : ∀ o, ((w.alloc (.cells #[.int .i64 k, .slice fa nf fc] 25)).alloc o).cell? ⟨N, 0, none⟩ = some (.int .i64 k) := fun o => World.cell?_alloc_of q0 o
  have qB : ∀ o, ((w.alloc (.cells #[.int .i64 k, .slice fa nf fc] 25)).alloc o).cell? ⟨N, 1, none⟩ = some (.slice fa nf fc) := fun o => World.cell?_alloc_of q1 o
  have hneA : N < (w.alloc (.cells #[.int .i64 k, .slice fa nf fc] 25)).heap.size := by rw [SA.out]; omega
  go_enter Try.func3, Try.ntmps3
  go_wp2_with fail
  rw [← hN]
  have h00 : w.heap.size = N := hN.symm
  clear hN
  generalize (w.alloc (.cells #[.int .i64 k, .slice fa nf fc] 25)) = WA at *
  go_region_held3 (fun w' => w'.cell? ⟨N, 0, none⟩ = some (.int .i64 k) ∧ w'.cell? ⟨N, 1, none⟩ = some (.slice fa nf fc)) (first | with_reducible exact y | exact ⟨qA _, qB _⟩ | exact ⟨World.cell?_alloc_of y.1 _, World.cell?_alloc_of y.2 _⟩ | exact ⟨cell_two (by omega) y.1 _ _, cell_two (by omega) y.2 _ _⟩ | exact ⟨q0, q1⟩) (first
    | (go_at_call 9; with_reducible refine H9a.out.mono ?_; rintro e w1 ⟨oa, on, oc, rfl, y, hlt1, ht, hb1⟩)
    | (go_at_call 9; with_reducible refine H9b.out.mono ?_; rintro e w1 ⟨oa, on, oc, rfl, y, hlt1, ht, hb1, hz, hlo⟩)
    | (go_at_call 10; with_reducible refine (H10z.out _ _ (up_al hb1.out _) (blk_new _ _)).mono ?_; rintro e w2 ⟨ia, inn, ic, rfl, y, y2, y3, y4, y5, hz2, hin, hio, hb2⟩)
    | (go_at_call 10; with_reducible refine (H10z.out _ _ hb1.out hz.out).mono ?_; rintro e w2 ⟨ia, inn, ic, rfl, y, y2, y3, y4, y5, hz2, hin, hio, hb2⟩)
    | (go_at_call 10; with_reducible refine (H10.out _ hb1.out).mono ?_; rintro e w2 ⟨ia, inn, ic, rfl, y, hin, hio, hb2⟩))
  · have u2 : Hid (Below WA.heap.size WA w2) := up_trans hb1.out hb2.out
    have FB : Hid (FilW (w2.alloc (.cells #[.int .i64 k, .slice ia inn ic] 27)) N 25 k fa nf fc lf) := ⟨blk_al (blk_up BA.out u2.out) _, ((HF.out.up UA.out).up u2.out).up (up_alloc _ _)⟩
    have AK : Hid (TextsW (w2.alloc (.cells #[.int .i64 k, .slice ia inn ic] 27)) (.slice ka nk kc) keys) := ((HKT.out.up UA.out).up u2.out).up (up_alloc _ _)
    have OW : Hid (TextsW (w2.alloc (.cells #[.int .i64 k, .slice ia inn ic] 27)) (.slice oa on oc) keys) := (ht.out.up hb2.out).up (up_alloc _ _)
    have IN : Hid (FilW (w2.alloc (.cells #[.int .i64 k, .slice ia inn ic] 27)) w2.heap.size 27 k ia inn ic lf) := ⟨blk_new _ _, (Octs.own hio.out HOL.out).up (up_alloc _ _)⟩
    have BB : Hid (Below w.heap.size w (w2.alloc (.cells #[.int .i64 k, .slice ia inn ic] 27))) := up_al (up_trans UA.out u2.out) _
    clear y ht hb1 hio hb2 H9a H9b H10 H10z q0 q1 qA qB BA SA UA HF HKT u2
    generalize w2.alloc (.cells #[.int .i64 k, .slice ia inn ic] 27) = W5 at *
    generalize w2.heap.size = N10 at *
    go_wp2_with fail
    refine (HMK'.out _ _ OW.out).mono ?_
    rintro e w3 ⟨ma, mn, mc, rfl, M, b3⟩
    have FBx : Hid (FilW w3 N 25 k fa nf fc lf) := FB.out.up b3.out
    have AKx : Hid (TextsW w3 (.slice ka nk kc) keys) := AK.out.up b3.out
    have OWx : Hid (TextsW w3 (.slice oa on oc) keys) := OW.out.up b3.out
    have INx : Hid (FilW w3 N10 27 k ia inn ic lf) := IN.out.up b3.out
    have BBx : Hid (Below w.heap.size w w3) := up_trans BB.out b3.out
    clear FB AK OW IN BB
    have FB := FBx
    clear FBx
    have AK := AKx
    clear AKx
    have OW := OWx
    clear OWx
    have IN := INx
    clear INx
    have BB := BBx
    clear BBx
    go_wp2_with fail
    have M11 : Hid (FilW (w3.alloc (.cells #[.int .i64 mk, .slice ma mn mc] 27)) w3.heap.size 27 mk ma mn mc ml) := ⟨blk_new _ _, M.out.up (up_alloc _ _)⟩
    clear M
    have FBx : Hid (FilW (w3.alloc (.cells #[.int .i64 mk, .slice ma mn mc] 27)) N 25 k fa nf fc lf) := FB.out.up (up_alloc _ _)
    have AKx : Hid (TextsW (w3.alloc (.cells #[.int .i64 mk, .slice ma mn mc] 27)) (.slice ka nk kc) keys) := AK.out.up (up_alloc _ _)
    have OWx : Hid (TextsW (w3.alloc (.cells #[.int .i64 mk, .slice ma mn mc] 27)) (.slice oa on oc) keys) := OW.out.up (up_alloc _ _)
    have INx : Hid (FilW (w3.alloc (.cells #[.int .i64 mk, .slice ma mn mc] 27)) N10 27 k ia inn ic lf) := IN.out.up (up_alloc _ _)
    have BBx : Hid (Below w.heap.size w (w3.alloc (.cells #[.int .i64 mk, .slice ma mn mc] 27))) := up_trans BB.out (up_alloc _ _)
    clear FB AK OW IN BB
    have FB := FBx
    clear FBx
    have AK := AKx
    clear AKx
    have OW := OWx
    clear OWx
    have IN := INx
    clear INx
    have BB := BBx
    clear BBx
    generalize (w3.alloc (.cells #[.int .i64 mk, .slice ma mn mc] 27)) = W3 at *
    generalize w3.heap.size = N11 at *
    refine (HMR'.out _ _ AK.out).mono ?_
    rintro e w4 ⟨ra, rn, rc, rfl, R, b4⟩
    have FBx : Hid (FilW w4 N 25 k fa nf fc lf) := FB.out.up b4.out
    have AKx : Hid (TextsW w4 (.slice ka nk kc) keys) := AK.out.up b4.out
    have OWx : Hid (TextsW w4 (.slice oa on oc) keys) := OW.out.up b4.out
    have INx : Hid (FilW w4 N10 27 k ia inn ic lf) := IN.out.up b4.out
    have BBx : Hid (Below w.heap.size w w4) := up_trans BB.out b4.out
    have M11x : Hid (FilW w4 N11 27 mk ma mn mc ml) := M11.out.up b4.out
    clear FB AK OW IN BB M11
    have FB := FBx
    clear FBx
    have AK := AKx
    clear AKx
    have OW := OWx
    clear OWx
    have IN := INx
    clear INx
    have BB := BBx
    clear BBx
    have M11 := M11x
    clear M11x
    have r0 := blk_cell IN.out.blk 0 _ rfl
    have r1 := blk_cell IN.out.blk 1 _ rfl
    have s0 : (w4.alloc (.cells #[.int .i64 mk, .slice ra rn rc] 25)).cell? ⟨N10, 0, none⟩ = some (.int .i64 k) := World.cell?_alloc_of r0 _
    have s1 : (w4.alloc (.cells #[.int .i64 mk, .slice ra rn rc] 25)).cell? ⟨N10, 1, none⟩ = some (.slice ia inn ic) := World.cell?_alloc_of r1 _
    clear r0 r1
    go_wp2_with fail
    clear s0 s1
    have R13 : Hid (FilW (w4.alloc (.cells #[.int .i64 mk, .slice ra rn rc] 25)) w4.heap.size 25 mk ra rn rc ml) := ⟨blk_new _ _, R.out.up (up_alloc _ _)⟩
    clear R
    have FBx : Hid (FilW (w4.alloc (.cells #[.int .i64 mk, .slice ra rn rc] 25)) N 25 k fa nf fc lf) := FB.out.up (up_alloc _ _)
    have AKx : Hid (TextsW (w4.alloc (.cells #[.int .i64 mk, .slice ra rn rc] 25)) (.slice ka nk kc) keys) := AK.out.up (up_alloc _ _)
    have OWx : Hid (TextsW (w4.alloc (.cells #[.int .i64 mk, .slice ra rn rc] 25)) (.slice oa on oc) keys) := OW.out.up (up_alloc _ _)
    have INx : Hid (FilW (w4.alloc (.cells #[.int .i64 mk, .slice ra rn rc] 25)) N10 27 k ia inn ic lf) := IN.out.up (up_alloc _ _)
    have BBx : Hid (Below w.heap.size w (w4.alloc (.cells #[.int .i64 mk, .slice ra rn rc] 25))) := up_trans BB.out (up_alloc _ _)
    have M11x : Hid (FilW (w4.alloc (.cells #[.int .i64 mk, .slice ra rn rc] 25)) N11 27 mk ma mn mc ml) := M11.out.up (up_alloc _ _)
    clear FB AK OW IN BB M11
    have FB := FBx
    clear FBx
    have AK := AKx
    clear AKx
    have OW := OWx
    clear OWx
    have IN := INx
    clear INx
    have BB := BBx
    clear BBx
    have M11 := M11x
    clear M11x
    generalize (w4.alloc (.cells #[.int .i64 mk, .slice ra rn rc] 25)) = W4 at *
    generalize w4.heap.size = N13 at *
    refine (HHS'.out _ _ _ _ hin.out IN.out.oct).mono ?_
    rintro e w5 ⟨rfl, b5⟩
    have FBx : Hid (FilW w5 N 25 k fa nf fc lf) := FB.out.up b5.out
    have AKx : Hid (TextsW w5 (.slice ka nk kc) keys) := AK.out.up b5.out
    have OWx : Hid (TextsW w5 (.slice oa on oc) keys) := OW.out.up b5.out
    have INx : Hid (FilW w5 N10 27 k ia inn ic lf) := IN.out.up b5.out
    have BBx : Hid (Below w.heap.size w w5) := up_trans BB.out b5.out
    have M11x : Hid (FilW w5 N11 27 mk ma mn mc ml) := M11.out.up b5.out
    have R13x : Hid (FilW w5 N13 25 mk ra rn rc ml) := R13.out.up b5.out
    clear FB AK OW IN BB M11 R13
    have FB := FBx
    clear FBx
    have AK := AKx
    clear AKx
    have OW := OWx
    clear OWx
    have IN := INx
    clear INx
    have BB := BBx
    clear BBx
    have M11 := M11x
    clear M11x
    have R13 := R13x
    clear R13x
    have r0 := blk_cell FB.out.blk 0 _ rfl
    have r1 := blk_cell FB.out.blk 1 _ rfl
    go_wp2_with fail
    refine (HHR'.out _ _ _ _ HNF.out FB.out.oct).mono ?_
    rintro e w6 ⟨rfl, b6⟩
    clear r0 r1
    have FBx : Hid (FilW w6 N 25 k fa nf fc lf) := FB.out.up b6.out
    have AKx : Hid (TextsW w6 (.slice ka nk kc) keys) := AK.out.up b6.out
    have OWx : Hid (TextsW w6 (.slice oa on oc) keys) := OW.out.up b6.out
    have INx : Hid (FilW w6 N10 27 k ia inn ic lf) := IN.out.up b6.out
    have BBx : Hid (Below w.heap.size w w6) := up_trans BB.out b6.out
    have M11x : Hid (FilW w6 N11 27 mk ma mn mc ml) := M11.out.up b6.out
    have R13x : Hid (FilW w6 N13 25 mk ra rn rc ml) := R13.out.up b6.out
    clear FB AK OW IN BB M11 R13
    have FB := FBx
    clear FBx
    have AK := AKx
    clear AKx
    have OW := OWx
    clear OWx
    have IN := INx
    clear INx
    have BB := BBx
    clear BBx
    have M11 := M11x
    clear M11x
    have R13 := R13x
    clear R13x
    go_wp2_with fail
    refine (HH1.out _).mono ?_
    rintro e w7 ⟨rfl, rfl⟩
    go_wp2_with fail
    refine (HH2.out _).mono ?_
    rintro e w7 ⟨rfl, rfl⟩
    have r0 := blk_cell M11.out.blk 0 _ rfl
    have r1 := blk_cell M11.out.blk 1 _ rfl
    have r2 := blk_cell R13.out.blk 0 _ rfl
    have r3 := blk_cell R13.out.blk 1 _ rfl
    go_wp2_with fail
    refine (HSM.out _ _ _ _ _ _ _ _ _ M11.out.oct R13.out.oct).mono ?_
    rintro e w8 ⟨rfl, b8⟩
    clear r0 r1 r2 r3
    have FBx : Hid (FilW w8 N 25 k fa nf fc lf) := FB.out.up b8.out
    have AKx : Hid (TextsW w8 (.slice ka nk kc) keys) := AK.out.up b8.out
    have OWx : Hid (TextsW w8 (.slice oa on oc) keys) := OW.out.up b8.out
    have INx : Hid (FilW w8 N10 27 k ia inn ic lf) := IN.out.up b8.out
    have BBx : Hid (Below w.heap.size w w8) := up_trans BB.out b8.out
    have M11x : Hid (FilW w8 N11 27 mk ma mn mc ml) := M11.out.up b8.out
    have R13x : Hid (FilW w8 N13 25 mk ra rn rc ml) := R13.out.up b8.out
    clear FB AK OW IN BB M11 R13
    have FB := FBx
    clear FBx
    have AK := AKx
    clear AKx
    have OW := OWx
    clear OWx
    have IN := INx
    clear INx
    have BB := BBx
    clear BBx
    have M11 := M11x
    clear M11x
    have R13 := R13x
    clear R13x
    go_wp2_with fail
    refine (HN.out _ _).mono ?_
    rintro e w9 ⟨rfl, rfl⟩
    go_wp2_with fail
    refine (HN.out _ _).mono ?_
    rintro e w9 ⟨rfl, rfl⟩
    go_wp2_with fail
    refine (HSS.out _ _ _ OW.out AK.out).mono ?_
    rintro e w10 ⟨rfl, b10⟩
    have FBx : Hid (FilW w10 N 25 k fa nf fc lf) := FB.out.up b10.out
    have AKx : Hid (TextsW w10 (.slice ka nk kc) keys) := AK.out.up b10.out
    have OWx : Hid (TextsW w10 (.slice oa on oc) keys) := OW.out.up b10.out
    have INx : Hid (FilW w10 N10 27 k ia inn ic lf) := IN.out.up b10.out
    have BBx : Hid (Below w.heap.size w w10) := up_trans BB.out b10.out
    have M11x : Hid (FilW w10 N11 27 mk ma mn mc ml) := M11.out.up b10.out
    have R13x : Hid (FilW w10 N13 25 mk ra rn rc ml) := R13.out.up b10.out
    clear FB AK OW IN BB M11 R13
    have FB := FBx
    clear FBx
    have AK := AKx
    clear AKx
    have OW := OWx
    clear OWx
    have IN := INx
    clear INx
    have BB := BBx
    clear BBx
    have M11 := M11x
    clear M11x
    have R13 := R13x
    clear R13x
    have r0 := blk_cell IN.out.blk 0 _ rfl
    have r1 := blk_cell IN.out.blk 1 _ rfl
    have r2 := blk_cell FB.out.blk 0 _ rfl
    have r3 := blk_cell FB.out.blk 1 _ rfl
    go_wp2_with fail
    refine (HSM.out _ _ _ _ _ _ _ _ _ IN.out.oct FB.out.oct).mono ?_
    rintro e w11 ⟨rfl, b11⟩
    clear r0 r1 r2 r3
    have FBx : Hid (FilW w11 N 25 k fa nf fc lf) := FB.out.up b11.out
    have AKx : Hid (TextsW w11 (.slice ka nk kc) keys) := AK.out.up b11.out
    have OWx : Hid (TextsW w11 (.slice oa on oc) keys) := OW.out.up b11.out
    have INx : Hid (FilW w11 N10 27 k ia inn ic lf) := IN.out.up b11.out
    have BBx : Hid (Below w.heap.size w w11) := up_trans BB.out b11.out
    have M11x : Hid (FilW w11 N11 27 mk ma mn mc ml) := M11.out.up b11.out
    have R13x : Hid (FilW w11 N13 25 mk ra rn rc ml) := R13.out.up b11.out
    clear FB AK OW IN BB M11 R13
    have FB := FBx
    clear FBx
    have AK := AKx
    clear AKx
    have OW := OWx
    clear OWx
    have IN := INx
    clear INx
    have BB := BBx
    clear BBx
    have M11 := M11x
    clear M11x
    have R13 := R13x
    clear R13x
    go_wp2_with fail
    refine (HA.out _).mono ?_
    rintro e w12 ⟨rfl, b12⟩
    go_wp2
    go_ret
    exact ⟨rfl, up_trans BB.out b12.out⟩
  · have u2 : Hid (Below WA.heap.size WA w2) := up_trans (up_al hb1.out _) hb2.out
    have gg := set2_grown w2 w1.heap.size (.int .i64 k) (.slice ia inn ic)
    have hlw : ∀ b, b < N → b < w1.heap.size := fun b hb => by omega
    have FB : Hid (FilW (set2 w2 w1.heap.size (.int .i64 k) (.slice ia inn ic)) N 25 k fa nf fc lf) := (⟨blk_up BA.out u2.out, (HF.out.up UA.out).up u2.out⟩ : FilW w2 N 25 k fa nf fc lf).far gg (fun e => by simp at e; omega) (fun b h hne e => by have := HF.out.lt b h hne; simp at e; omega)
    have AK : Hid (TextsW (set2 w2 w1.heap.size (.int .i64 k) (.slice ia inn ic)) (.slice ka nk kc) keys) := ((HKT.out.up UA.out).up u2.out).far gg (fun b h hne e => by have := HKT.out.lt b h hne; simp at e; omega)
    have OW : Hid (TextsW (set2 w2 w1.heap.size (.int .i64 k) (.slice ia inn ic)) (.slice oa on oc) keys) := ((ht.out.up (up_alloc _ _)).up hb2.out).far gg (fun b h hne e => by have := ht.out.lt b h hne; simp at e; omega)
    have IN : Hid (FilW (set2 w2 w1.heap.size (.int .i64 k) (.slice ia inn ic)) w1.heap.size 27 k ia inn ic lf) := ⟨set2_blk hz2.out _ _, Octs.own (hio.out.kept gg (.inr fun e => by have := (hio.out.lt _ e).1; rw [World.size_alloc] at this; omega)) HOL.out⟩
    have BB : Hid (Below w.heap.size w (set2 w2 w1.heap.size (.int .i64 k) (.slice ia inn ic))) := (up_trans UA.out u2.out).grown gg (up_trans UA.out u2.out).size (fun j hj => by simp at hj; omega)
    clear y ht hb1 hio hb2 H9a H9b H10 H10z q0 q1 qA qB BA SA UA HF HKT u2 gg y2 y3 y4 y5 hz2 hlw
    change Exit.then _ _ Exit.normal _ (set2 w2 w1.heap.size (.int .i64 k) (.slice ia inn ic))
    generalize set2 w2 w1.heap.size (.int .i64 k) (.slice ia inn ic) = W5 at *
    generalize w1.heap.size = N10 at *
    go_wp2_with fail
    refine (HMK'.out _ _ OW.out).mono ?_
    rintro e w3 ⟨ma, mn, mc, rfl, M, b3⟩
    have FBx : Hid (FilW w3 N 25 k fa nf fc lf) := FB.out.up b3.out
    have AKx : Hid (TextsW w3 (.slice ka nk kc) keys) := AK.out.up b3.out
    have OWx : Hid (TextsW w3 (.slice oa on oc) keys) := OW.out.up b3.out
    have INx : Hid (FilW w3 N10 27 k ia inn ic lf) := IN.out.up b3.out
    have BBx : Hid (Below w.heap.size w w3) := up_trans BB.out b3.out
    clear FB AK OW IN BB
    have FB := FBx
    clear FBx
    have AK := AKx
    clear AKx
    have OW := OWx
    clear OWx
    have IN := INx
    clear INx
    have BB := BBx
    clear BBx
    go_wp2_with fail
    have M11 : Hid (FilW (w3.alloc (.cells #[.int .i64 mk, .slice ma mn mc] 27)) w3.heap.size 27 mk ma mn mc ml) := ⟨blk_new _ _, M.out.up (up_alloc _ _)⟩
    clear M
    have FBx : Hid (FilW (w3.alloc (.cells #[.int .i64 mk, .slice ma mn mc] 27)) N 25 k fa nf fc lf) := FB.out.up (up_alloc _ _)
    have AKx : Hid (TextsW (w3.alloc (.cells #[.int .i64 mk, .slice ma mn mc] 27)) (.slice ka nk kc) keys) := AK.out.up (up_alloc _ _)
    have OWx : Hid (TextsW (w3.alloc (.cells #[.int .i64 mk, .slice ma mn mc] 27)) (.slice oa on oc) keys) := OW.out.up (up_alloc _ _)
    have INx : Hid (FilW (w3.alloc (.cells #[.int .i64 mk, .slice ma mn mc] 27)) N10 27 k ia inn ic lf) := IN.out.up (up_alloc _ _)
    have BBx : Hid (Below w.heap.size w (w3.alloc (.cells #[.int .i64 mk, .slice ma mn mc] 27))) := up_trans BB.out (up_alloc _ _)
    clear FB AK OW IN BB
    have FB := FBx
    clear FBx
    have AK := AKx
    clear AKx
    have OW := OWx
    clear OWx
    have IN := INx
    clear INx
    have BB := BBx
    clear BBx
    generalize (w3.alloc (.cells #[.int .i64 mk, .slice ma mn mc] 27)) = W3 at *
    generalize w3.heap.size = N11 at *
    refine (HMR'.out _ _ AK.out).mono ?_
    rintro e w4 ⟨ra, rn, rc, rfl, R, b4⟩
    have FBx : Hid (FilW w4 N 25 k fa nf fc lf) := FB.out.up b4.out
    have AKx : Hid (TextsW w4 (.slice ka nk kc) keys) := AK.out.up b4.out
    have OWx : Hid (TextsW w4 (.slice oa on oc) keys) := OW.out.up b4.out
    have INx : Hid (FilW w4 N10 27 k ia inn ic lf) := IN.out.up b4.out
    have BBx : Hid (Below w.heap.size w w4) := up_trans BB.out b4.out
    have M11x : Hid (FilW w4 N11 27 mk ma mn mc ml) := M11.out.up b4.out
    clear FB AK OW IN BB M11
    have FB := FBx
    clear FBx
    have AK := AKx
    clear AKx
    have OW := OWx
    clear OWx
    have IN := INx
    clear INx
    have BB := BBx
    clear BBx
    have M11 := M11x
    clear M11x
    have r0 := blk_cell IN.out.blk 0 _ rfl
    have r1 := blk_cell IN.out.blk 1 _ rfl
    have s0 : (w4.alloc (.cells #[.int .i64 mk, .slice ra rn rc] 25)).cell? ⟨N10, 0, none⟩ = some (.int .i64 k) := World.cell?_alloc_of r0 _
    have s1 : (w4.alloc (.cells #[.int .i64 mk, .slice ra rn rc] 25)).cell? ⟨N10, 1, none⟩ = some (.slice ia inn ic) := World.cell?_alloc_of r1 _
    clear r0 r1
    go_wp2_with fail
    clear s0 s1
    have R13 : Hid (FilW (w4.alloc (.cells #[.int .i64 mk, .slice ra rn rc] 25)) w4.heap.size 25 mk ra rn rc ml) := ⟨blk_new _ _, R.out.up (up_alloc _ _)⟩
    clear R
    have FBx : Hid (FilW (w4.alloc (.cells #[.int .i64 mk, .slice ra rn rc] 25)) N 25 k fa nf fc lf) := FB.out.up (up_alloc _ _)
    have AKx : Hid (TextsW (w4.alloc (.cells #[.int .i64 mk, .slice ra rn rc] 25)) (.slice ka nk kc) keys) := AK.out.up (up_alloc _ _)
    have OWx : Hid (TextsW (w4.alloc (.cells #[.int .i64 mk, .slice ra rn rc] 25)) (.slice oa on oc) keys) := OW.out.up (up_alloc _ _)
    have INx : Hid (FilW (w4.alloc (.cells #[.int .i64 mk, .slice ra rn rc] 25)) N10 27 k ia inn ic lf) := IN.out.up (up_alloc _ _)
    have BBx : Hid (Below w.heap.size w (w4.alloc (.cells #[.int .i64 mk, .slice ra rn rc] 25))) := up_trans BB.out (up_alloc _ _)
    have M11x : Hid (FilW (w4.alloc (.cells #[.int .i64 mk, .slice ra rn rc] 25)) N11 27 mk ma mn mc ml) := M11.out.up (up_alloc _ _)
    clear FB AK OW IN BB M11
    have FB := FBx
    clear FBx
    have AK := AKx
    clear AKx
    have OW := OWx
    clear OWx
    have IN := INx
    clear INx
    have BB := BBx
    clear BBx
    have M11 := M11x
    clear M11x
    generalize (w4.alloc (.cells #[.int .i64 mk, .slice ra rn rc] 25)) = W4 at *
    generalize w4.heap.size = N13 at *
    refine (HHS'.out _ _ _ _ hin.out IN.out.oct).mono ?_
    rintro e w5 ⟨rfl, b5⟩
    have FBx : Hid (FilW w5 N 25 k fa nf fc lf) := FB.out.up b5.out
    have AKx : Hid (TextsW w5 (.slice ka nk kc) keys) := AK.out.up b5.out
    have OWx : Hid (TextsW w5 (.slice oa on oc) keys) := OW.out.up b5.out
    have INx : Hid (FilW w5 N10 27 k ia inn ic lf) := IN.out.up b5.out
    have BBx : Hid (Below w.heap.size w w5) := up_trans BB.out b5.out
    have M11x : Hid (FilW w5 N11 27 mk ma mn mc ml) := M11.out.up b5.out
    have R13x : Hid (FilW w5 N13 25 mk ra rn rc ml) := R13.out.up b5.out
    clear FB AK OW IN BB M11 R13
    have FB := FBx
    clear FBx
    have AK := AKx
    clear AKx
    have OW := OWx
    clear OWx
    have IN := INx
    clear INx
    have BB := BBx
    clear BBx
    have M11 := M11x
    clear M11x
    have R13 := R13x
    clear R13x
    have r0 := blk_cell FB.out.blk 0 _ rfl
    have r1 := blk_cell FB.out.blk 1 _ rfl
    go_wp2_with fail
    refine (HHR'.out _ _ _ _ HNF.out FB.out.oct).mono ?_
    rintro e w6 ⟨rfl, b6⟩
    clear r0 r1
    have FBx : Hid (FilW w6 N 25 k fa nf fc lf) := FB.out.up b6.out
    have AKx : Hid (TextsW w6 (.slice ka nk kc) keys) := AK.out.up b6.out
    have OWx : Hid (TextsW w6 (.slice oa on oc) keys) := OW.out.up b6.out
    have INx : Hid (FilW w6 N10 27 k ia inn ic lf) := IN.out.up b6.out
    have BBx : Hid (Below w.heap.size w w6) := up_trans BB.out b6.out
    have M11x : Hid (FilW w6 N11 27 mk ma mn mc ml) := M11.out.up b6.out
    have R13x : Hid (FilW w6 N13 25 mk ra rn rc ml) := R13.out.up b6.out
    clear FB AK OW IN BB M11 R13
    have FB := FBx
    clear FBx
    have AK := AKx
    clear AKx
    have OW := OWx
    clear OWx
    have IN := INx
    clear INx
    have BB := BBx
    clear BBx
    have M11 := M11x
    clear M11x
    have R13 := R13x
    clear R13x
    go_wp2_with fail
    refine (HH1.out _).mono ?_
    rintro e w7 ⟨rfl, rfl⟩
    go_wp2_with fail
    refine (HH2.out _).mono ?_
    rintro e w7 ⟨rfl, rfl⟩
    have r0 := blk_cell M11.out.blk 0 _ rfl
    have r1 := blk_cell M11.out.blk 1 _ rfl
    have r2 := blk_cell R13.out.blk 0 _ rfl
    have r3 := blk_cell R13.out.blk 1 _ rfl
    go_wp2_with fail
    refine (HSM.out _ _ _ _ _ _ _ _ _ M11.out.oct R13.out.oct).mono ?_
    rintro e w8 ⟨rfl, b8⟩
    clear r0 r1 r2 r3
    have FBx : Hid (FilW w8 N 25 k fa nf fc lf) := FB.out.up b8.out
    have AKx : Hid (TextsW w8 (.slice ka nk kc) keys) := AK.out.up b8.out
    have OWx : Hid (TextsW w8 (.slice oa on oc) keys) := OW.out.up b8.out
    have INx : Hid (FilW w8 N10 27 k ia inn ic lf) := IN.out.up b8.out
    have BBx : Hid (Below w.heap.size w w8) := up_trans BB.out b8.out
    have M11x : Hid (FilW w8 N11 27 mk ma mn mc ml) := M11.out.up b8.out
    have R13x : Hid (FilW w8 N13 25 mk ra rn rc ml) := R13.out.up b8.out
    clear FB AK OW IN BB M11 R13
    have FB := FBx
    clear FBx
    have AK := AKx
    clear AKx
    have OW := OWx
    clear OWx
    have IN := INx
    clear INx
    have BB := BBx
    clear BBx
    have M11 := M11x
    clear M11x
    have R13 := R13x
    clear R13x
    go_wp2_with fail
    refine (HN.out _ _).mono ?_
    rintro e w9 ⟨rfl, rfl⟩
    go_wp2_with fail
    refine (HN.out _ _).mono ?_
    rintro e w9 ⟨rfl, rfl⟩
    go_wp2_with fail
    refine (HSS.out _ _ _ OW.out AK.out).mono ?_
    rintro e w10 ⟨rfl, b10⟩
    have FBx : Hid (FilW w10 N 25 k fa nf fc lf) := FB.out.up b10.out
    have AKx : Hid (TextsW w10 (.slice ka nk kc) keys) := AK.out.up b10.out
    have OWx : Hid (TextsW w10 (.slice oa on oc) keys) := OW.out.up b10.out
    have INx : Hid (FilW w10 N10 27 k ia inn ic lf) := IN.out.up b10.out
    have BBx : Hid (Below w.heap.size w w10) := up_trans BB.out b10.out
    have M11x : Hid (FilW w10 N11 27 mk ma mn mc ml) := M11.out.up b10.out
    have R13x : Hid (FilW w10 N13 25 mk ra rn rc ml) := R13.out.up b10.out
    clear FB AK OW IN BB M11 R13
    have FB := FBx
    clear FBx
    have AK := AKx
    clear AKx
    have OW := OWx
    clear OWx
    have IN := INx
    clear INx
    have BB := BBx
    clear BBx
    have M11 := M11x
    clear M11x
    have R13 := R13x
    clear R13x
    have r0 := blk_cell IN.out.blk 0 _ rfl
    have r1 := blk_cell IN.out.blk 1 _ rfl
    have r2 := blk_cell FB.out.blk 0 _ rfl
    have r3 := blk_cell FB.out.blk 1 _ rfl
    go_wp2_with fail
    refine (HSM.out _ _ _ _ _ _ _ _ _ IN.out.oct FB.out.oct).mono ?_
    rintro e w11 ⟨rfl, b11⟩
    clear r0 r1 r2 r3
    have FBx : Hid (FilW w11 N 25 k fa nf fc lf) := FB.out.up b11.out
    have AKx : Hid (TextsW w11 (.slice ka nk kc) keys) := AK.out.up b11.out
    have OWx : Hid (TextsW w11 (.slice oa on oc) keys) := OW.out.up b11.out
    have INx : Hid (FilW w11 N10 27 k ia inn ic lf) := IN.out.up b11.out
    have BBx : Hid (Below w.heap.size w w11) := up_trans BB.out b11.out
    have M11x : Hid (FilW w11 N11 27 mk ma mn mc ml) := M11.out.up b11.out
    have R13x : Hid (FilW w11 N13 25 mk ra rn rc ml) := R13.out.up b11.out
    clear FB AK OW IN BB M11 R13
    have FB := FBx
    clear FBx
    have AK := AKx
    clear AKx
    have OW := OWx
    clear OWx
    have IN := INx
    clear INx
    have BB := BBx
    clear BBx
    have M11 := M11x
    clear M11x
    have R13 := R13x
    clear R13x
    go_wp2_with fail
    refine (HA.out _).mono ?_
    rintro e w12 ⟨rfl, b12⟩
    go_wp2
    go_ret
    exact ⟨rfl, up_trans BB.out b12.out⟩
  · have u2 : Hid (Below WA.heap.size WA w2) := up_trans hb1.out hb2.out
    have gg := set2_grown w2 WA.heap.size (.int .i64 k) (.slice ia inn ic)
    have hlw : ∀ b, b < N → b < WA.heap.size := fun b hb => by omega
    have FB : Hid (FilW (set2 w2 WA.heap.size (.int .i64 k) (.slice ia inn ic)) N 25 k fa nf fc lf) := (⟨blk_up BA.out u2.out, (HF.out.up UA.out).up u2.out⟩ : FilW w2 N 25 k fa nf fc lf).far gg (fun e => by simp at e; omega) (fun b h hne e => by have := HF.out.lt b h hne; simp at e; omega)
    have AK : Hid (TextsW (set2 w2 WA.heap.size (.int .i64 k) (.slice ia inn ic)) (.slice ka nk kc) keys) := ((HKT.out.up UA.out).up u2.out).far gg (fun b h hne e => by have := HKT.out.lt b h hne; simp at e; omega)
    have OW : Hid (TextsW (set2 w2 WA.heap.size (.int .i64 k) (.slice ia inn ic)) (.slice oa on oc) keys) := (ht.out.up hb2.out).far gg (fun b h hne e => by have := hlo.out b h; simp at e; omega)
    have IN : Hid (FilW (set2 w2 WA.heap.size (.int .i64 k) (.slice ia inn ic)) WA.heap.size 27 k ia inn ic lf) := ⟨set2_blk hz2.out _ _, Octs.own (hio.out.kept gg (.inr fun e => by have := (hio.out.lt _ e).1; have := blk_lt hz.out; omega)) HOL.out⟩
    have BB : Hid (Below w.heap.size w (set2 w2 WA.heap.size (.int .i64 k) (.slice ia inn ic))) := (up_trans UA.out u2.out).grown gg (up_trans UA.out u2.out).size (fun j hj => by simp at hj; omega)
    clear y ht hb1 hio hb2 H9a H9b H10 H10z q0 q1 qA qB BA SA UA HF HKT u2 gg y2 y3 y4 y5 hz2 hlw hz hlo
    change Exit.then _ _ Exit.normal _ (set2 w2 WA.heap.size (.int .i64 k) (.slice ia inn ic))
    generalize set2 w2 WA.heap.size (.int .i64 k) (.slice ia inn ic) = W5 at *
    generalize WA.heap.size = N10 at *
    go_wp2_with fail
    refine (HMK'.out _ _ OW.out).mono ?_
    rintro e w3 ⟨ma, mn, mc, rfl, M, b3⟩
    have FBx : Hid (FilW w3 N 25 k fa nf fc lf) := FB.out.up b3.out
    have AKx : Hid (TextsW w3 (.slice ka nk kc) keys) := AK.out.up b3.out
    have OWx : Hid (TextsW w3 (.slice oa on oc) keys) := OW.out.up b3.out
    have INx : Hid (FilW w3 N10 27 k ia inn ic lf) := IN.out.up b3.out
    have BBx : Hid (Below w.heap.size w w3) := up_trans BB.out b3.out
    clear FB AK OW IN BB
    have FB := FBx
    clear FBx
    have AK := AKx
    clear AKx
    have OW := OWx
    clear OWx
    have IN := INx
    clear INx
    have BB := BBx
    clear BBx
    go_wp2_with fail
    have M11 : Hid (FilW (w3.alloc (.cells #[.int .i64 mk, .slice ma mn mc] 27)) w3.heap.size 27 mk ma mn mc ml) := ⟨blk_new _ _, M.out.up (up_alloc _ _)⟩
    clear M
    have FBx : Hid (FilW (w3.alloc (.cells #[.int .i64 mk, .slice ma mn mc] 27)) N 25 k fa nf fc lf) := FB.out.up (up_alloc _ _)
    have AKx : Hid (TextsW (w3.alloc (.cells #[.int .i64 mk, .slice ma mn mc] 27)) (.slice ka nk kc) keys) := AK.out.up (up_alloc _ _)
    have OWx : Hid (TextsW (w3.alloc (.cells #[.int .i64 mk, .slice ma mn mc] 27)) (.slice oa on oc) keys) := OW.out.up (up_alloc _ _)
    have INx : Hid (FilW (w3.alloc (.cells #[.int .i64 mk, .slice ma mn mc] 27)) N10 27 k ia inn ic lf) := IN.out.up (up_alloc _ _)
    have BBx : Hid (Below w.heap.size w (w3.alloc (.cells #[.int .i64 mk, .slice ma mn mc] 27))) := up_trans BB.out (up_alloc _ _)
    clear FB AK OW IN BB
    have FB := FBx
    clear FBx
    have AK := AKx
    clear AKx
    have OW := OWx
    clear OWx
    have IN := INx
    clear INx
    have BB := BBx
    clear BBx
    generalize (w3.alloc (.cells #[.int .i64 mk, .slice ma mn mc] 27)) = W3 at *
    generalize w3.heap.size = N11 at *
    refine (HMR'.out _ _ AK.out).mono ?_
    rintro e w4 ⟨ra, rn, rc, rfl, R, b4⟩
    have FBx : Hid (FilW w4 N 25 k fa nf fc lf) := FB.out.up b4.out
    have AKx : Hid (TextsW w4 (.slice ka nk kc) keys) := AK.out.up b4.out
    have OWx : Hid (TextsW w4 (.slice oa on oc) keys) := OW.out.up b4.out
    have INx : Hid (FilW w4 N10 27 k ia inn ic lf) := IN.out.up b4.out
    have BBx : Hid (Below w.heap.size w w4) := up_trans BB.out b4.out
    have M11x : Hid (FilW w4 N11 27 mk ma mn mc ml) := M11.out.up b4.out
    clear FB AK OW IN BB M11
    have FB := FBx
    clear FBx
    have AK := AKx
    clear AKx
    have OW := OWx
    clear OWx
    have IN := INx
    clear INx
    have BB := BBx
    clear BBx
    have M11 := M11x
    clear M11x
    have r0 := blk_cell IN.out.blk 0 _ rfl
    have r1 := blk_cell IN.out.blk 1 _ rfl
    have s0 : (w4.alloc (.cells #[.int .i64 mk, .slice ra rn rc] 25)).cell? ⟨N10, 0, none⟩ = some (.int .i64 k) := World.cell?_alloc_of r0 _
    have s1 : (w4.alloc (.cells #[.int .i64 mk, .slice ra rn rc] 25)).cell? ⟨N10, 1, none⟩ = some (.slice ia inn ic) := World.cell?_alloc_of r1 _
    clear r0 r1
    go_wp2_with fail
    clear s0 s1
    have R13 : Hid (FilW (w4.alloc (.cells #[.int .i64 mk, .slice ra rn rc] 25)) w4.heap.size 25 mk ra rn rc ml) := ⟨blk_new _ _, R.out.up (up_alloc _ _)⟩
    clear R
    have FBx : Hid (FilW (w4.alloc (.cells #[.int .i64 mk, .slice ra rn rc] 25)) N 25 k fa nf fc lf) := FB.out.up (up_alloc _ _)
    have AKx : Hid (TextsW (w4.alloc (.cells #[.int .i64 mk, .slice ra rn rc] 25)) (.slice ka nk kc) keys) := AK.out.up (up_alloc _ _)
    have OWx : Hid (TextsW (w4.alloc (.cells #[.int .i64 mk, .slice ra rn rc] 25)) (.slice oa on oc) keys) := OW.out.up (up_alloc _ _)
    have INx : Hid (FilW (w4.alloc (.cells #[.int .i64 mk, .slice ra rn rc] 25)) N10 27 k ia inn ic lf) := IN.out.up (up_alloc _ _)
    have BBx : Hid (Below w.heap.size w (w4.alloc (.cells #[.int .i64 mk, .slice ra rn rc] 25))) := up_trans BB.out (up_alloc _ _)
    have M11x : Hid (FilW (w4.alloc (.cells #[.int .i64 mk, .slice ra rn rc] 25)) N11 27 mk ma mn mc ml) := M11.out.up (up_alloc _ _)
    clear FB AK OW IN BB M11
    have FB := FBx
    clear FBx
    have AK := AKx
    clear AKx
    have OW := OWx
    clear OWx
    have IN := INx
    clear INx
    have BB := BBx
    clear BBx
    have M11 := M11x
    clear M11x
    generalize (w4.alloc (.cells #[.int .i64 mk, .slice ra rn rc] 25)) = W4 at *
    generalize w4.heap.size = N13 at *
    refine (HHS'.out _ _ _ _ hin.out IN.out.oct).mono ?_
    rintro e w5 ⟨rfl, b5⟩
    have FBx : Hid (FilW w5 N 25 k fa nf fc lf) := FB.out.up b5.out
    have AKx : Hid (TextsW w5 (.slice ka nk kc) keys) := AK.out.up b5.out
    have OWx : Hid (TextsW w5 (.slice oa on oc) keys) := OW.out.up b5.out
    have INx : Hid (FilW w5 N10 27 k ia inn ic lf) := IN.out.up b5.out
    have BBx : Hid (Below w.heap.size w w5) := up_trans BB.out b5.out
    have M11x : Hid (FilW w5 N11 27 mk ma mn mc ml) := M11.out.up b5.out
    have R13x : Hid (FilW w5 N13 25 mk ra rn rc ml) := R13.out.up b5.out
    clear FB AK OW IN BB M11 R13
    have FB := FBx
    clear FBx
    have AK := AKx
    clear AKx
    have OW := OWx
    clear OWx
    have IN := INx
    clear INx
    have BB := BBx
    clear BBx
    have M11 := M11x
    clear M11x
    have R13 := R13x
    clear R13x
    have r0 := blk_cell FB.out.blk 0 _ rfl
    have r1 := blk_cell FB.out.blk 1 _ rfl
    go_wp2_with fail
    refine (HHR'.out _ _ _ _ HNF.out FB.out.oct).mono ?_
    rintro e w6 ⟨rfl, b6⟩
    clear r0 r1
    have FBx : Hid (FilW w6 N 25 k fa nf fc lf) := FB.out.up b6.out
    have AKx : Hid (TextsW w6 (.slice ka nk kc) keys) := AK.out.up b6.out
    have OWx : Hid (TextsW w6 (.slice oa on oc) keys) := OW.out.up b6.out
    have INx : Hid (FilW w6 N10 27 k ia inn ic lf) := IN.out.up b6.out
    have BBx : Hid (Below w.heap.size w w6) := up_trans BB.out b6.out
    have M11x : Hid (FilW w6 N11 27 mk ma mn mc ml) := M11.out.up b6.out
    have R13x : Hid (FilW w6 N13 25 mk ra rn rc ml) := R13.out.up b6.out
    clear FB AK OW IN BB M11 R13
    have FB := FBx
    clear FBx
    have AK := AKx
    clear AKx
    have OW := OWx
    clear OWx
    have IN := INx
    clear INx
    have BB := BBx
    clear BBx
    have M11 := M11x
    clear M11x
    have R13 := R13x
    clear R13x
    go_wp2_with fail
    refine (HH1.out _).mono ?_
    rintro e w7 ⟨rfl, rfl⟩
    go_wp2_with fail
    refine (HH2.out _).mono ?_
    rintro e w7 ⟨rfl, rfl⟩
    have r0 := blk_cell M11.out.blk 0 _ rfl
    have r1 := blk_cell M11.out.blk 1 _ rfl
    have r2 := blk_cell R13.out.blk 0 _ rfl
    have r3 := blk_cell R13.out.blk 1 _ rfl
    go_wp2_with fail
    refine (HSM.out _ _ _ _ _ _ _ _ _ M11.out.oct R13.out.oct).mono ?_
    rintro e w8 ⟨rfl, b8⟩
    clear r0 r1 r2 r3
    have FBx : Hid (FilW w8 N 25 k fa nf fc lf) := FB.out.up b8.out
    have AKx : Hid (TextsW w8 (.slice ka nk kc) keys) := AK.out.up b8.out
    have OWx : Hid (TextsW w8 (.slice oa on oc) keys) := OW.out.up b8.out
    have INx : Hid (FilW w8 N10 27 k ia inn ic lf) := IN.out.up b8.out
    have BBx : Hid (Below w.heap.size w w8) := up_trans BB.out b8.out
    have M11x : Hid (FilW w8 N11 27 mk ma mn mc ml) := M11.out.up b8.out
    have R13x : Hid (FilW w8 N13 25 mk ra rn rc ml) := R13.out.up b8.out
    clear FB AK OW IN BB M11 R13
    have FB := FBx
    clear FBx
    have AK := AKx
    clear AKx
    have OW := OWx
    clear OWx
    have IN := INx
    clear INx
    have BB := BBx
    clear BBx
    have M11 := M11x
    clear M11x
    have R13 := R13x
    clear R13x
    go_wp2_with fail
    refine (HN.out _ _).mono ?_
    rintro e w9 ⟨rfl, rfl⟩
    go_wp2_with fail
    refine (HN.out _ _).mono ?_
    rintro e w9 ⟨rfl, rfl⟩
    go_wp2_with fail
    refine (HSS.out _ _ _ OW.out AK.out).mono ?_
    rintro e w10 ⟨rfl, b10⟩
    have FBx : Hid (FilW w10 N 25 k fa nf fc lf) := FB.out.up b10.out
    have AKx : Hid (TextsW w10 (.slice ka nk kc) keys) := AK.out.up b10.out
    have OWx : Hid (TextsW w10 (.slice oa on oc) keys) := OW.out.up b10.out
    have INx : Hid (FilW w10 N10 27 k ia inn ic lf) := IN.out.up b10.out
    have BBx : Hid (Below w.heap.size w w10) := up_trans BB.out b10.out
    have M11x : Hid (FilW w10 N11 27 mk ma mn mc ml) := M11.out.up b10.out
    have R13x : Hid (FilW w10 N13 25 mk ra rn rc ml) := R13.out.up b10.out
    clear FB AK OW IN BB M11 R13
    have FB := FBx
    clear FBx
    have AK := AKx
    clear AKx
    have OW := OWx
    clear OWx
    have IN := INx
    clear INx
    have BB := BBx
    clear BBx
    have M11 := M11x
    clear M11x
    have R13 := R13x
    clear R13x
    have r0 := blk_cell IN.out.blk 0 _ rfl
    have r1 := blk_cell IN.out.blk 1 _ rfl
    have r2 := blk_cell FB.out.blk 0 _ rfl
    have r3 := blk_cell FB.out.blk 1 _ rfl
    go_wp2_with fail
    refine (HSM.out _ _ _ _ _ _ _ _ _ IN.out.oct FB.out.oct).mono ?_
    rintro e w11 ⟨rfl, b11⟩
    clear r0 r1 r2 r3
    have FBx : Hid (FilW w11 N 25 k fa nf fc lf) := FB.out.up b11.out
    have AKx : Hid (TextsW w11 (.slice ka nk kc) keys) := AK.out.up b11.out
    have OWx : Hid (TextsW w11 (.slice oa on oc) keys) := OW.out.up b11.out
    have INx : Hid (FilW w11 N10 27 k ia inn ic lf) := IN.out.up b11.out
    have BBx : Hid (Below w.heap.size w w11) := up_trans BB.out b11.out
    have M11x : Hid (FilW w11 N11 27 mk ma mn mc ml) := M11.out.up b11.out
    have R13x : Hid (FilW w11 N13 25 mk ra rn rc ml) := R13.out.up b11.out
    clear FB AK OW IN BB M11 R13
    have FB := FBx
    clear FBx
    have AK := AKx
    clear AKx
    have OW := OWx
    clear OWx
    have IN := INx
    clear INx
    have BB := BBx
    clear BBx
    have M11 := M11x
    clear M11x
    have R13 := R13x
    clear R13x
    go_wp2_with fail
    refine (HA.out _).mono ?_
    rintro e w12 ⟨rfl, b12⟩
    go_wp2
    go_ret
    exact ⟨rfl, up_trans BB.out b12.out⟩
end Go.Proofs.Ytbhlphhgibikeaa
