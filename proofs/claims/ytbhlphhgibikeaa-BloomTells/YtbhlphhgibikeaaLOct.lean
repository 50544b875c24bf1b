/- The walk of BloomOctets. -/
import Derived.Test.YtbhlphhgibikeaaLOwn
namespace Go.Proofs.Ytbhlphhgibikeaa
open Go.RowKit
set_option linter.unusedVariables false
set_option linter.unusedSimpArgs false

theorem of_law (k : Int) (l : List Int) (hl : l.length ≤ 140737488355328) (hx : OctL l) (a : Option Addr) (n c : Nat) (W : World) (hn : n = l.length) (h : Octs W (.slice a n c) l) :
    Calls Try.prog 10 #[.agg #[.int .i64 k, .slice a n c]] W fun e w' => ∃ a' n' c', e = .returned (.agg #[.int .i64 k, .slice a' n' c']) ∧ Hid (n' = l.length) ∧ Hid (Octs w' (.slice a' n' c') l) ∧ Hid (Below W.heap.size W w') := by
  subst hn
  refine (of_any k l a c W h hl).mono ?_
  rintro e w' ⟨a', n', c', rfl, h1, h2, h3⟩
  exact ⟨a', n', c', rfl, h1, Octs.own h2 hx, h3⟩
theorem copy_law (l : List Int) (hl : l.length ≤ 140737488355328) (v : Value) (W : World) (h : Octs W v l) :
    Calls Try.prog 21 #[v] W fun e w' => ∃ a' n' c', e = .returned (.slice a' n' c') ∧ Hid (n' = l.length) ∧ Hid (Octs w' (.slice a' n' c') l) ∧ Hid (Below W.heap.size W w') := by
  refine (copy_any l v W h hl).mono ?_
  rintro e w' ⟨v', rfl, h2, h3⟩
  obtain ⟨a', n', c', rfl, h1⟩ := own_shape h2
  exact ⟨a', n', c', rfl, h1, Octs.own h2 h.1, h3⟩
theorem encL_oct {k : Int} {l : List Int} (hl : OctL l) : OctL (encL k l) ∧ (encL k l).length ≤ 8193 := by
  unfold encL
  split
  · rename_i h
    obtain ⟨k1, k2, _, _⟩ := may_le h
    refine ⟨?_, by simp; omega⟩
    intro x hx
    rcases List.mem_cons.1 hx with rfl | hx
    · omega
    · exact hl x hx
  · exact ⟨oct_nil, by simp⟩
theorem enc_law (k : Int) (l : List Int) (hx : OctL l) (a : Option Addr) (n c : Nat) (W : World) (hn : n = l.length) (h : Octs W (.slice a n c) l) :
    Calls Try.prog 22 #[.agg #[.int .i64 k, .slice a n c]] W fun e w' => ∃ a' n' c', e = .returned (.tuple #[.slice a' n' c', .int .i64 (chkE k l.length)]) ∧ Hid (n' = (encL k l).length) ∧ Hid (Octs w' (.slice a' n' c') (encL k l)) ∧ Hid (Below W.heap.size W w') := by
  subst hn
  refine (encode_any k l a c W h).mono ?_
  rintro e w' ⟨a', n', c', rfl, h1, h2, h3⟩
  exact ⟨a', n', c', rfl, h1, Octs.own h2 (encL_oct hx).1, h3⟩
theorem refEnc_law (k : Int) (l : List Int) (hx : OctL l) (a : Option Addr) (n c : Nat) (W : World) (hn : n = l.length) (h : Octs W (.slice a n c) l) :
    Calls Try.prog 23 #[.agg #[.int .i64 k, .slice a n c]] W fun e w' => ∃ a' n' c', e = .returned (.tuple #[.slice a' n' c', .int .i64 (chkE k l.length)]) ∧ Hid (n' = (encL k l).length) ∧ Hid (Octs w' (.slice a' n' c') (encL k l)) ∧ Hid (Below W.heap.size W w') := by
  subst hn
  refine (refEncode_any k l a c W h).mono ?_
  rintro e w' ⟨a', n', c', rfl, h1, h2, h3⟩
  exact ⟨a', n', c', rfl, h1, Octs.own h2 (encL_oct hx).1, h3⟩
theorem dec_law (l : List Int) (hl : l.length ≤ 140737488355328) (v : Value) (W : World) (h : Octs W v l) :
    Calls Try.prog 24 #[v] W fun e w' => ∃ a' n' c', e = .returned (.tuple #[.agg #[.int .i64 (decF l).1, .slice a' n' c'], .int .i64 (decF l).2.2]) ∧ Hid (n' = (decF l).2.1.length) ∧ Hid (Octs w' (.slice a' n' c') (decF l).2.1) ∧ Hid (Below W.heap.size W w') := by
  refine (decode_any l v W h hl).mono ?_
  rintro e w' ⟨a', n', c', rfl, h1, h2, h3⟩
  exact ⟨a', n', c', rfl, h1, Octs.own h2 (decF_oct h.1), h3⟩
theorem refDec_law (l : List Int) (hl : l.length ≤ 140737488355328) (v : Value) (W : World) (h : Octs W v l) :
    Calls Try.prog 25 #[v] W fun e w' => ∃ a' n' c', e = .returned (.tuple #[.agg #[.int .i64 (decF l).1, .slice a' n' c'], .int .i64 (decF l).2.2]) ∧ Hid (n' = (decF l).2.1.length) ∧ Hid (Octs w' (.slice a' n' c') (decF l).2.1) ∧ Hid (Below W.heap.size W w') := by
  refine (refDecode_any l v W h hl).mono ?_
  rintro e w' ⟨a', n', c', rfl, h1, h2, h3⟩
  exact ⟨a', n', c', rfl, h1, Octs.own h2 (decF_oct h.1), h3⟩
theorem same_law (k : Int) (l : List Int) (a1 a2 : Option Addr) (n1 n2 c1 c2 : Nat) (W : World) (h1 : Octs W (.slice a1 n1 c1) l) (h2 : Octs W (.slice a2 n2 c2) l) : Calls Try.prog 17 #[.agg #[.int .i64 k, .slice a1 n1 c1], .agg #[.int .i64 k, .slice a2 n2 c2]] W fun e w' => e = .returned (.bool true) ∧ Hid (Below W.heap.size W w') := by
  refine (same2_any k k l l _ _ W h1 h2).mono ?_
  rintro e w' ⟨rfl, hb⟩
  exact ⟨by simp, hb⟩
theorem sameB_law (l : List Int) (v1 v2 : Value) (W : World) (h1 : Octs W v1 l) (h2 : Octs W v2 l) : Calls Try.prog 26 #[v1, v2] W fun e w' => e = .returned (.bool true) ∧ w' = W := by
  refine (same_any l l _ _ W h1 h2).mono ?_
  rintro e w' ⟨rfl, hb⟩
  exact ⟨by simp, hb⟩

set_option maxHeartbeats 4000000 in
theorem octets_walk (k : Int) (lf lb : List Int) (fa : Option Addr) (fc : Nat) (v : Value) (w : World) (hf : Octs w (.slice fa lf.length fc) lf) (hv : Octs w v lb) (hfl : lf.length ≤ 140737488351232) (hbl : lb.length ≤ 140737488351232) :
    Calls Try.prog 4 #[.agg #[.int .i64 k, .slice fa lf.length fc], v] w fun e w' => e = .returned (.bool true) ∧ Below w.heap.size w w' := by
  obtain ⟨ba, bc, rfl, _, _⟩ := hv.len
  have HA : Hid (∀ w : World, Calls Try.prog 20 #[] w fun e w' => e = .returned (.bool true) ∧ Hid (Below w.heap.size w w')) := fun w => alive_any w
  have HN : Hid (∀ (x : Int) (w : World), Calls Try.prog 18 #[.int .i64 x] w fun e w' => e = .returned (.int .i64 x) ∧ w' = w) := fun x w => num_any x w
  have HOF := of_law k lf (by omega) hf.1
  have HCP := copy_law lb (by omega)
  have HEN := enc_law k lf hf.1
  have HRE := refEnc_law k lf hf.1
  have HDC := dec_law lb (by omega)
  have HRD := refDec_law lb (by omega)
  have HSM : Hid (∀ (k : Int) (l : List Int) (a1 a2 : Option Addr) (n1 n2 c1 c2 : Nat) (W : World), Octs W (.slice a1 n1 c1) l → Octs W (.slice a2 n2 c2) l → Calls Try.prog 17 #[.agg #[.int .i64 k, .slice a1 n1 c1], .agg #[.int .i64 k, .slice a2 n2 c2]] W fun e w' => e = .returned (.bool true) ∧ Hid (Below W.heap.size W w')) := same_law
  have HSB : Hid (∀ (l : List Int) (v1 v2 : Value) (W : World), Octs W v1 l → Octs W v2 l → Calls Try.prog 26 #[v1, v2] W fun e w' => e = .returned (.bool true) ∧ w' = W) := sameB_law
  have HDX : Hid (chkE k lf.length = 0 → ∀ (v : Value) (W : World), Octs W v (encL k lf) → Calls Try.prog 24 #[v] W fun e w' => ∃ a' n' c', e = .returned (.tuple #[.agg #[.int .i64 k, .slice a' n' c'], .int .i64 0]) ∧ Hid (n' = lf.length) ∧ Hid (Octs w' (.slice a' n' c') lf) ∧ Hid (Below W.heap.size W w')) := by
    intro h0 v W h
    have hmay : mayB k lf.length = true := by
      cases hm : mayB k lf.length
      · unfold chkE at h0; rw [hm] at h0; simp at h0
      · rfl
    have h2 := dec_law (encL k lf) (by have := (encL_oct (k := k) hf.1).2; omega) v W h
    rw [dec_enc hmay hf.1] at h2
    exact h2
  have HEX : Hid ((decF lb).2.2 = 0 → ∀ (a : Option Addr) (n c : Nat) (W : World), n = (decF lb).2.1.length → Octs W (.slice a n c) (decF lb).2.1 → Calls Try.prog 22 #[.agg #[.int .i64 (decF lb).1, .slice a n c]] W fun e w' => ∃ a' n' c', e = .returned (.tuple #[.slice a' n' c', .int .i64 0]) ∧ Hid (Octs w' (.slice a' n' c') lb) ∧ Hid (Below W.heap.size W w')) := by
    intro h0 a n c W hn h
    obtain ⟨h1, h2⟩ := enc_dec h0
    have h3 := enc_law (decF lb).1 (decF lb).2.1 (decF_oct hv.1) a n c W hn h
    have hc : chkE (decF lb).1 (decF lb).2.1.length = 0 := by unfold chkE; rw [if_pos h1]
    rw [hc, h2] at h3
    refine h3.mono ?_
    rintro e w' ⟨a', n', c', rfl, _, h5, h6⟩
    exact ⟨a', n', c', rfl, h5, h6⟩
  have HF : Hid (Octs w (.slice fa lf.length fc) lf) := hf
  have HB0 : Hid (Octs w (.slice ba lb.length bc) lb) := hv
  clear hf hv hfl hbl
  generalize (decF lb).1 = dk at *
  generalize (decF lb).2.1 = dl at *
  generalize (decF lb).2.2 = i at *
  generalize chkE k lf.length = q at *
  generalize encL k lf = le at *
  obtain ⟨nf, hnf⟩ : ∃ nf, nf = lf.length := ⟨_, rfl⟩
  obtain ⟨nb, hnb⟩ : ∃ nb, nb = lb.length := ⟨_, rfl⟩
  rw [← hnf] at HF ⊢
  rw [← hnb] at HB0 ⊢
  have HNF : Hid (nf = lf.length) := hnf
  clear hnf hnb
  have HOF' := (show Hid _ from HOF)
  clear HOF
  have HCP' := (show Hid _ from HCP)
  clear HCP
  have HEN' := (show Hid _ from HEN)
  clear HEN
  have HRE' := (show Hid _ from HRE)
  clear HRE
  have HDC' := (show Hid _ from HDC)
  clear HDC
  have HRD' := (show Hid _ from HRD)
  clear HRD
  go_enter Try.func4, Try.ntmps4
  go_wp2_with fail
  have FB : Hid (FilW (w.alloc (.cells #[.int .i64 k, .slice fa nf fc] 25)) w.heap.size 25 k fa nf fc lf) := ⟨blk_new _ _, HF.out.up (up_alloc _ _)⟩
  have AB : Hid (Octs (w.alloc (.cells #[.int .i64 k, .slice fa nf fc] 25)) (.slice ba nb bc) lb) := HB0.out.up (up_alloc _ _)
  have BB : Hid (Below w.heap.size w (w.alloc (.cells #[.int .i64 k, .slice fa nf fc] 25))) := up_alloc _ _
  clear HF HB0
  generalize (w.alloc (.cells #[.int .i64 k, .slice fa nf fc] 25)) = W0 at *
  refine (HOF'.out _ _ _ _ HNF.out FB.out.oct).mono ?_
  rintro e w1 ⟨ia, inn, ic, rfl, hin, IN, b1⟩
  have FBx : Hid (FilW w1 w.heap.size 25 k fa nf fc lf) := FB.out.up b1.out
  have ABx : Hid (Octs w1 (.slice ba nb bc) lb) := AB.out.up b1.out
  have BBx : Hid (Below w.heap.size w w1) := up_trans BB.out b1.out
  clear FB AB BB
  have FB := FBx
  clear FBx
  have AB := ABx
  clear ABx
  have BB := BBx
  clear BBx
  go_wp2_with fail
  refine (HCP'.out _ _ AB.out).mono ?_
  rintro e w2 ⟨oa, on, oc, rfl, hon, OW, b2⟩
  have FBx : Hid (FilW w2 w.heap.size 25 k fa nf fc lf) := FB.out.up b2.out
  have ABx : Hid (Octs w2 (.slice ba nb bc) lb) := AB.out.up b2.out
  have BBx : Hid (Below w.heap.size w w2) := up_trans BB.out b2.out
  have INx : Hid (Octs w2 (.slice ia inn ic) lf) := IN.out.up b2.out
  clear FB AB BB IN
  have FB := FBx
  clear FBx
  have AB := ABx
  clear ABx
  have BB := BBx
  clear BBx
  have IN := INx
  clear INx
  go_wp2_with fail
  have IN5 : Hid (FilW (w2.alloc (.cells #[.int .i64 k, .slice ia inn ic] 27)) w2.heap.size 27 k ia inn ic lf) := ⟨blk_new _ _, IN.out.up (up_alloc _ _)⟩
  clear IN
  have FBx : Hid (FilW (w2.alloc (.cells #[.int .i64 k, .slice ia inn ic] 27)) w.heap.size 25 k fa nf fc lf) := FB.out.up (up_alloc _ _)
  have ABx : Hid (Octs (w2.alloc (.cells #[.int .i64 k, .slice ia inn ic] 27)) (.slice ba nb bc) lb) := AB.out.up (up_alloc _ _)
  have BBx : Hid (Below w.heap.size w (w2.alloc (.cells #[.int .i64 k, .slice ia inn ic] 27))) := up_trans BB.out (up_alloc _ _)
  have OWx : Hid (Octs (w2.alloc (.cells #[.int .i64 k, .slice ia inn ic] 27)) (.slice oa on oc) lb) := OW.out.up (up_alloc _ _)
  clear FB AB BB OW
  have FB := FBx
  clear FBx
  have AB := ABx
  clear ABx
  have BB := BBx
  clear BBx
  have OW := OWx
  clear OWx
  generalize (w2.alloc (.cells #[.int .i64 k, .slice ia inn ic] 27)) = W2 at *
  generalize w2.heap.size = N5 at *
  refine (HEN'.out _ _ _ _ hin.out IN5.out.oct).mono ?_
  rintro e w3 ⟨xa, xn, xc, rfl, hxn, X, b3⟩
  have FBx : Hid (FilW w3 w.heap.size 25 k fa nf fc lf) := FB.out.up b3.out
  have ABx : Hid (Octs w3 (.slice ba nb bc) lb) := AB.out.up b3.out
  have BBx : Hid (Below w.heap.size w w3) := up_trans BB.out b3.out
  have OWx : Hid (Octs w3 (.slice oa on oc) lb) := OW.out.up b3.out
  have IN5x : Hid (FilW w3 N5 27 k ia inn ic lf) := IN5.out.up b3.out
  clear FB AB BB OW IN5
  have FB := FBx
  clear FBx
  have AB := ABx
  clear ABx
  have BB := BBx
  clear BBx
  have OW := OWx
  clear OWx
  have IN5 := IN5x
  clear IN5x
  have q0 := blk_cell FB.out.blk 0 _ rfl
  have q1 := blk_cell FB.out.blk 1 _ rfl
  go_wp2_with fail
  refine (HRE'.out _ _ _ _ HNF.out FB.out.oct).mono ?_
  rintro e w4 ⟨ya, yn, yc, rfl, hyn, Y, b4⟩
  clear q0 q1
  have FBx : Hid (FilW w4 w.heap.size 25 k fa nf fc lf) := FB.out.up b4.out
  have ABx : Hid (Octs w4 (.slice ba nb bc) lb) := AB.out.up b4.out
  have BBx : Hid (Below w.heap.size w w4) := up_trans BB.out b4.out
  have OWx : Hid (Octs w4 (.slice oa on oc) lb) := OW.out.up b4.out
  have IN5x : Hid (FilW w4 N5 27 k ia inn ic lf) := IN5.out.up b4.out
  have Xx : Hid (Octs w4 (.slice xa xn xc) le) := X.out.up b4.out
  clear FB AB BB OW IN5 X
  have FB := FBx
  clear FBx
  have AB := ABx
  clear ABx
  have BB := BBx
  clear BBx
  have OW := OWx
  clear OWx
  have IN5 := IN5x
  clear IN5x
  have X := Xx
  clear Xx
  go_wp2_with fail
  refine (HDC'.out _ _ OW.out).mono ?_
  rintro e w5 ⟨ua, un, uc, rfl, hun, U, b5⟩
  have FBx : Hid (FilW w5 w.heap.size 25 k fa nf fc lf) := FB.out.up b5.out
  have ABx : Hid (Octs w5 (.slice ba nb bc) lb) := AB.out.up b5.out
  have BBx : Hid (Below w.heap.size w w5) := up_trans BB.out b5.out
  have OWx : Hid (Octs w5 (.slice oa on oc) lb) := OW.out.up b5.out
  have IN5x : Hid (FilW w5 N5 27 k ia inn ic lf) := IN5.out.up b5.out
  have Xx : Hid (Octs w5 (.slice xa xn xc) le) := X.out.up b5.out
  have Yx : Hid (Octs w5 (.slice ya yn yc) le) := Y.out.up b5.out
  clear FB AB BB OW IN5 X Y
  have FB := FBx
  clear FBx
  have AB := ABx
  clear ABx
  have BB := BBx
  clear BBx
  have OW := OWx
  clear OWx
  have IN5 := IN5x
  clear IN5x
  have X := Xx
  clear Xx
  have Y := Yx
  clear Yx
  go_wp2_with fail
  have U11 : Hid (FilW (w5.alloc (.cells #[.int .i64 dk, .slice ua un uc] 27)) w5.heap.size 27 dk ua un uc dl) := ⟨blk_new _ _, U.out.up (up_alloc _ _)⟩
  clear U
  have FBx : Hid (FilW (w5.alloc (.cells #[.int .i64 dk, .slice ua un uc] 27)) w.heap.size 25 k fa nf fc lf) := FB.out.up (up_alloc _ _)
  have ABx : Hid (Octs (w5.alloc (.cells #[.int .i64 dk, .slice ua un uc] 27)) (.slice ba nb bc) lb) := AB.out.up (up_alloc _ _)
  have BBx : Hid (Below w.heap.size w (w5.alloc (.cells #[.int .i64 dk, .slice ua un uc] 27))) := up_trans BB.out (up_alloc _ _)
  have OWx : Hid (Octs (w5.alloc (.cells #[.int .i64 dk, .slice ua un uc] 27)) (.slice oa on oc) lb) := OW.out.up (up_alloc _ _)
  have IN5x : Hid (FilW (w5.alloc (.cells #[.int .i64 dk, .slice ua un uc] 27)) N5 27 k ia inn ic lf) := IN5.out.up (up_alloc _ _)
  have Xx : Hid (Octs (w5.alloc (.cells #[.int .i64 dk, .slice ua un uc] 27)) (.slice xa xn xc) le) := X.out.up (up_alloc _ _)
  have Yx : Hid (Octs (w5.alloc (.cells #[.int .i64 dk, .slice ua un uc] 27)) (.slice ya yn yc) le) := Y.out.up (up_alloc _ _)
  clear FB AB BB OW IN5 X Y
  have FB := FBx
  clear FBx
  have AB := ABx
  clear ABx
  have BB := BBx
  clear BBx
  have OW := OWx
  clear OWx
  have IN5 := IN5x
  clear IN5x
  have X := Xx
  clear Xx
  have Y := Yx
  clear Yx
  generalize (w5.alloc (.cells #[.int .i64 dk, .slice ua un uc] 27)) = W5 at *
  generalize w5.heap.size = N11 at *
  refine (HRD'.out _ _ AB.out).mono ?_
  rintro e w6 ⟨va, vn, vc, rfl, hvn, V, b6⟩
  have FBx : Hid (FilW w6 w.heap.size 25 k fa nf fc lf) := FB.out.up b6.out
  have ABx : Hid (Octs w6 (.slice ba nb bc) lb) := AB.out.up b6.out
  have BBx : Hid (Below w.heap.size w w6) := up_trans BB.out b6.out
  have OWx : Hid (Octs w6 (.slice oa on oc) lb) := OW.out.up b6.out
  have IN5x : Hid (FilW w6 N5 27 k ia inn ic lf) := IN5.out.up b6.out
  have Xx : Hid (Octs w6 (.slice xa xn xc) le) := X.out.up b6.out
  have Yx : Hid (Octs w6 (.slice ya yn yc) le) := Y.out.up b6.out
  have U11x : Hid (FilW w6 N11 27 dk ua un uc dl) := U11.out.up b6.out
  clear FB AB BB OW IN5 X Y U11
  have FB := FBx
  clear FBx
  have AB := ABx
  clear ABx
  have BB := BBx
  clear BBx
  have OW := OWx
  clear OWx
  have IN5 := IN5x
  clear IN5x
  have X := Xx
  clear Xx
  have Y := Yx
  clear Yx
  have U11 := U11x
  clear U11x
  go_wp2_with fail
  have V13 : Hid (FilW (w6.alloc (.cells #[.int .i64 dk, .slice va vn vc] 25)) w6.heap.size 25 dk va vn vc dl) := ⟨blk_new _ _, V.out.up (up_alloc _ _)⟩
  clear V
  have FBx : Hid (FilW (w6.alloc (.cells #[.int .i64 dk, .slice va vn vc] 25)) w.heap.size 25 k fa nf fc lf) := FB.out.up (up_alloc _ _)
  have ABx : Hid (Octs (w6.alloc (.cells #[.int .i64 dk, .slice va vn vc] 25)) (.slice ba nb bc) lb) := AB.out.up (up_alloc _ _)
  have BBx : Hid (Below w.heap.size w (w6.alloc (.cells #[.int .i64 dk, .slice va vn vc] 25))) := up_trans BB.out (up_alloc _ _)
  have OWx : Hid (Octs (w6.alloc (.cells #[.int .i64 dk, .slice va vn vc] 25)) (.slice oa on oc) lb) := OW.out.up (up_alloc _ _)
  have IN5x : Hid (FilW (w6.alloc (.cells #[.int .i64 dk, .slice va vn vc] 25)) N5 27 k ia inn ic lf) := IN5.out.up (up_alloc _ _)
  have Xx : Hid (Octs (w6.alloc (.cells #[.int .i64 dk, .slice va vn vc] 25)) (.slice xa xn xc) le) := X.out.up (up_alloc _ _)
  have Yx : Hid (Octs (w6.alloc (.cells #[.int .i64 dk, .slice va vn vc] 25)) (.slice ya yn yc) le) := Y.out.up (up_alloc _ _)
  have U11x : Hid (FilW (w6.alloc (.cells #[.int .i64 dk, .slice va vn vc] 25)) N11 27 dk ua un uc dl) := U11.out.up (up_alloc _ _)
  clear FB AB BB OW IN5 X Y U11
  have FB := FBx
  clear FBx
  have AB := ABx
  clear ABx
  have BB := BBx
  clear BBx
  have OW := OWx
  clear OWx
  have IN5 := IN5x
  clear IN5x
  have X := Xx
  clear Xx
  have Y := Yx
  clear Yx
  have U11 := U11x
  clear U11x
  generalize (w6.alloc (.cells #[.int .i64 dk, .slice va vn vc] 25)) = W6 at *
  generalize w6.heap.size = N13 at *
  refine (HSB.out _ _ _ _ X.out Y.out).mono ?_
  rintro e w7 ⟨rfl, rfl⟩
  go_wp2_with fail
  refine (HN.out _ _).mono ?_
  rintro e w7 ⟨rfl, rfl⟩
  have r0 := blk_cell U11.out.blk 0 _ rfl
  have r1 := blk_cell U11.out.blk 1 _ rfl
  have r2 := blk_cell V13.out.blk 0 _ rfl
  have r3 := blk_cell V13.out.blk 1 _ rfl
  go_wp2_with fail
  refine (HSM.out _ _ _ _ _ _ _ _ _ U11.out.oct V13.out.oct).mono ?_
  rintro e w8 ⟨rfl, b8⟩
  clear r0 r1 r2 r3
  have FBx : Hid (FilW w8 w.heap.size 25 k fa nf fc lf) := FB.out.up b8.out
  have ABx : Hid (Octs w8 (.slice ba nb bc) lb) := AB.out.up b8.out
  have BBx : Hid (Below w.heap.size w w8) := up_trans BB.out b8.out
  have OWx : Hid (Octs w8 (.slice oa on oc) lb) := OW.out.up b8.out
  have IN5x : Hid (FilW w8 N5 27 k ia inn ic lf) := IN5.out.up b8.out
  have Xx : Hid (Octs w8 (.slice xa xn xc) le) := X.out.up b8.out
  have Yx : Hid (Octs w8 (.slice ya yn yc) le) := Y.out.up b8.out
  have U11x : Hid (FilW w8 N11 27 dk ua un uc dl) := U11.out.up b8.out
  have V13x : Hid (FilW w8 N13 25 dk va vn vc dl) := V13.out.up b8.out
  clear FB AB BB OW IN5 X Y U11 V13
  have FB := FBx
  clear FBx
  have AB := ABx
  clear ABx
  have BB := BBx
  clear BBx
  have OW := OWx
  clear OWx
  have IN5 := IN5x
  clear IN5x
  have X := Xx
  clear Xx
  have Y := Yx
  clear Yx
  have U11 := U11x
  clear U11x
  have V13 := V13x
  clear V13x
  go_wp2_with fail
  refine (HN.out _ _).mono ?_
  rintro e w9 ⟨rfl, rfl⟩
  have r0 := blk_cell IN5.out.blk 0 _ rfl
  have r1 := blk_cell IN5.out.blk 1 _ rfl
  have r2 := blk_cell FB.out.blk 0 _ rfl
  have r3 := blk_cell FB.out.blk 1 _ rfl
  go_wp2_with fail
  refine (HSM.out _ _ _ _ _ _ _ _ _ IN5.out.oct FB.out.oct).mono ?_
  rintro e w10 ⟨rfl, b10⟩
  clear r0 r1 r2 r3
  have FBx : Hid (FilW w10 w.heap.size 25 k fa nf fc lf) := FB.out.up b10.out
  have ABx : Hid (Octs w10 (.slice ba nb bc) lb) := AB.out.up b10.out
  have BBx : Hid (Below w.heap.size w w10) := up_trans BB.out b10.out
  have OWx : Hid (Octs w10 (.slice oa on oc) lb) := OW.out.up b10.out
  have IN5x : Hid (FilW w10 N5 27 k ia inn ic lf) := IN5.out.up b10.out
  have Xx : Hid (Octs w10 (.slice xa xn xc) le) := X.out.up b10.out
  have Yx : Hid (Octs w10 (.slice ya yn yc) le) := Y.out.up b10.out
  have U11x : Hid (FilW w10 N11 27 dk ua un uc dl) := U11.out.up b10.out
  have V13x : Hid (FilW w10 N13 25 dk va vn vc dl) := V13.out.up b10.out
  clear FB AB BB OW IN5 X Y U11 V13
  have FB := FBx
  clear FBx
  have AB := ABx
  clear ABx
  have BB := BBx
  clear BBx
  have OW := OWx
  clear OWx
  have IN5 := IN5x
  clear IN5x
  have X := Xx
  clear Xx
  have Y := Yx
  clear Yx
  have U11 := U11x
  clear U11x
  have V13 := V13x
  clear V13x
  go_wp2_with fail
  refine (HSB.out _ _ _ _ OW.out AB.out).mono ?_
  rintro e w11 ⟨rfl, rfl⟩
  by_cases hq : q = 0
  · have HDQ := (show Hid _ from HDX.out hq)
    subst hq
    go_wp2_with fail
    refine (HDQ.out _ _ X.out).mono ?_
    rintro e w12 ⟨ta, tn, tc, rfl, htn, TT, b12⟩
    have FBx : Hid (FilW w12 w.heap.size 25 k fa nf fc lf) := FB.out.up b12.out
    have ABx : Hid (Octs w12 (.slice ba nb bc) lb) := AB.out.up b12.out
    have BBx : Hid (Below w.heap.size w w12) := up_trans BB.out b12.out
    have OWx : Hid (Octs w12 (.slice oa on oc) lb) := OW.out.up b12.out
    have IN5x : Hid (FilW w12 N5 27 k ia inn ic lf) := IN5.out.up b12.out
    have Xx : Hid (Octs w12 (.slice xa xn xc) le) := X.out.up b12.out
    have Yx : Hid (Octs w12 (.slice ya yn yc) le) := Y.out.up b12.out
    have U11x : Hid (FilW w12 N11 27 dk ua un uc dl) := U11.out.up b12.out
    have V13x : Hid (FilW w12 N13 25 dk va vn vc dl) := V13.out.up b12.out
    clear FB AB BB OW IN5 X Y U11 V13
    have FB := FBx
    clear FBx
    have AB := ABx
    clear ABx
    have BB := BBx
    clear BBx
    have OW := OWx
    clear OWx
    have IN5 := IN5x
    clear IN5x
    have X := Xx
    clear Xx
    have Y := Yx
    clear Yx
    have U11 := U11x
    clear U11x
    have V13 := V13x
    clear V13x
    go_wp2_with fail
    have T15 : Hid (FilW (w12.alloc (.cells #[.int .i64 k, .slice ta tn tc] 27)) w12.heap.size 27 k ta tn tc lf) := ⟨blk_new _ _, TT.out.up (up_alloc _ _)⟩
    clear TT
    have FBx : Hid (FilW (w12.alloc (.cells #[.int .i64 k, .slice ta tn tc] 27)) w.heap.size 25 k fa nf fc lf) := FB.out.up (up_alloc _ _)
    have ABx : Hid (Octs (w12.alloc (.cells #[.int .i64 k, .slice ta tn tc] 27)) (.slice ba nb bc) lb) := AB.out.up (up_alloc _ _)
    have BBx : Hid (Below w.heap.size w (w12.alloc (.cells #[.int .i64 k, .slice ta tn tc] 27))) := up_trans BB.out (up_alloc _ _)
    have OWx : Hid (Octs (w12.alloc (.cells #[.int .i64 k, .slice ta tn tc] 27)) (.slice oa on oc) lb) := OW.out.up (up_alloc _ _)
    have IN5x : Hid (FilW (w12.alloc (.cells #[.int .i64 k, .slice ta tn tc] 27)) N5 27 k ia inn ic lf) := IN5.out.up (up_alloc _ _)
    have Xx : Hid (Octs (w12.alloc (.cells #[.int .i64 k, .slice ta tn tc] 27)) (.slice xa xn xc) le) := X.out.up (up_alloc _ _)
    have Yx : Hid (Octs (w12.alloc (.cells #[.int .i64 k, .slice ta tn tc] 27)) (.slice ya yn yc) le) := Y.out.up (up_alloc _ _)
    have U11x : Hid (FilW (w12.alloc (.cells #[.int .i64 k, .slice ta tn tc] 27)) N11 27 dk ua un uc dl) := U11.out.up (up_alloc _ _)
    have V13x : Hid (FilW (w12.alloc (.cells #[.int .i64 k, .slice ta tn tc] 27)) N13 25 dk va vn vc dl) := V13.out.up (up_alloc _ _)
    clear FB AB BB OW IN5 X Y U11 V13
    have FB := FBx
    clear FBx
    have AB := ABx
    clear ABx
    have BB := BBx
    clear BBx
    have OW := OWx
    clear OWx
    have IN5 := IN5x
    clear IN5x
    have X := Xx
    clear Xx
    have Y := Yx
    clear Yx
    have U11 := U11x
    clear U11x
    have V13 := V13x
    clear V13x
    generalize (w12.alloc (.cells #[.int .i64 k, .slice ta tn tc] 27)) = W12 at *
    generalize w12.heap.size = N15 at *
    refine (HN.out _ _).mono ?_
    rintro e w13 ⟨rfl, rfl⟩
    have r0 := blk_cell T15.out.blk 0 _ rfl
    have r1 := blk_cell T15.out.blk 1 _ rfl
    have r2 := blk_cell FB.out.blk 0 _ rfl
    have r3 := blk_cell FB.out.blk 1 _ rfl
    go_wp2_with fail
    refine (HSM.out _ _ _ _ _ _ _ _ _ T15.out.oct FB.out.oct).mono ?_
    rintro e w14 ⟨rfl, b14⟩
    clear r0 r1 r2 r3
    have FBx : Hid (FilW w14 w.heap.size 25 k fa nf fc lf) := FB.out.up b14.out
    have ABx : Hid (Octs w14 (.slice ba nb bc) lb) := AB.out.up b14.out
    have BBx : Hid (Below w.heap.size w w14) := up_trans BB.out b14.out
    have OWx : Hid (Octs w14 (.slice oa on oc) lb) := OW.out.up b14.out
    have IN5x : Hid (FilW w14 N5 27 k ia inn ic lf) := IN5.out.up b14.out
    have Xx : Hid (Octs w14 (.slice xa xn xc) le) := X.out.up b14.out
    have Yx : Hid (Octs w14 (.slice ya yn yc) le) := Y.out.up b14.out
    have U11x : Hid (FilW w14 N11 27 dk ua un uc dl) := U11.out.up b14.out
    have V13x : Hid (FilW w14 N13 25 dk va vn vc dl) := V13.out.up b14.out
    have T15x : Hid (FilW w14 N15 27 k ta tn tc lf) := T15.out.up b14.out
    clear FB AB BB OW IN5 X Y U11 V13 T15
    have FB := FBx
    clear FBx
    have AB := ABx
    clear ABx
    have BB := BBx
    clear BBx
    have OW := OWx
    clear OWx
    have IN5 := IN5x
    clear IN5x
    have X := Xx
    clear Xx
    have Y := Yx
    clear Yx
    have U11 := U11x
    clear U11x
    have V13 := V13x
    clear V13x
    have T15 := T15x
    clear T15x
    by_cases hi : i = 0
    · have HEI := (show Hid _ from HEX.out hi)
      subst hi
      have r0 := blk_cell U11.out.blk 0 _ rfl
      have r1 := blk_cell U11.out.blk 1 _ rfl
      go_wp2_with fail
      refine (HEI.out _ _ _ _ hun.out U11.out.oct).mono ?_
      rintro e w15 ⟨za, zn, zc, rfl, Z, b15⟩
      clear r0 r1
      have FBx : Hid (FilW w15 w.heap.size 25 k fa nf fc lf) := FB.out.up b15.out
      have ABx : Hid (Octs w15 (.slice ba nb bc) lb) := AB.out.up b15.out
      have BBx : Hid (Below w.heap.size w w15) := up_trans BB.out b15.out
      have OWx : Hid (Octs w15 (.slice oa on oc) lb) := OW.out.up b15.out
      have IN5x : Hid (FilW w15 N5 27 k ia inn ic lf) := IN5.out.up b15.out
      have Xx : Hid (Octs w15 (.slice xa xn xc) le) := X.out.up b15.out
      have Yx : Hid (Octs w15 (.slice ya yn yc) le) := Y.out.up b15.out
      have U11x : Hid (FilW w15 N11 27 dk ua un uc dl) := U11.out.up b15.out
      have V13x : Hid (FilW w15 N13 25 dk va vn vc dl) := V13.out.up b15.out
      have T15x : Hid (FilW w15 N15 27 k ta tn tc lf) := T15.out.up b15.out
      clear FB AB BB OW IN5 X Y U11 V13 T15
      have FB := FBx
      clear FBx
      have AB := ABx
      clear ABx
      have BB := BBx
      clear BBx
      have OW := OWx
      clear OWx
      have IN5 := IN5x
      clear IN5x
      have X := Xx
      clear Xx
      have Y := Yx
      clear Yx
      have U11 := U11x
      clear U11x
      have V13 := V13x
      clear V13x
      have T15 := T15x
      clear T15x
      go_wp2_with fail
      refine (HN.out _ _).mono ?_
      rintro e w16 ⟨rfl, rfl⟩
      go_wp2_with fail
      refine (HSB.out _ _ _ _ Z.out AB.out).mono ?_
      rintro e w17 ⟨rfl, rfl⟩
      go_wp2_with fail
      refine (HA.out _).mono ?_
      rintro e w20 ⟨rfl, b20⟩
      go_wp2
      go_ret
      exact ⟨rfl, up_trans BB.out b20.out⟩
    · have hi' : (i == 0) = false := by simp [hi]
      go_wp2_with fail
      refine (HA.out _).mono ?_
      rintro e w20 ⟨rfl, b20⟩
      go_wp2
      go_ret
      exact ⟨rfl, up_trans BB.out b20.out⟩
  · have hq' : (q == 0) = false := by simp [hq]
    by_cases hi : i = 0
    · have HEI := (show Hid _ from HEX.out hi)
      subst hi
      have r0 := blk_cell U11.out.blk 0 _ rfl
      have r1 := blk_cell U11.out.blk 1 _ rfl
      go_wp2_with fail
      refine (HEI.out _ _ _ _ hun.out U11.out.oct).mono ?_
      rintro e w15 ⟨za, zn, zc, rfl, Z, b15⟩
      clear r0 r1
      have FBx : Hid (FilW w15 w.heap.size 25 k fa nf fc lf) := FB.out.up b15.out
      have ABx : Hid (Octs w15 (.slice ba nb bc) lb) := AB.out.up b15.out
      have BBx : Hid (Below w.heap.size w w15) := up_trans BB.out b15.out
      have OWx : Hid (Octs w15 (.slice oa on oc) lb) := OW.out.up b15.out
      have IN5x : Hid (FilW w15 N5 27 k ia inn ic lf) := IN5.out.up b15.out
      have Xx : Hid (Octs w15 (.slice xa xn xc) le) := X.out.up b15.out
      have Yx : Hid (Octs w15 (.slice ya yn yc) le) := Y.out.up b15.out
      have U11x : Hid (FilW w15 N11 27 dk ua un uc dl) := U11.out.up b15.out
      have V13x : Hid (FilW w15 N13 25 dk va vn vc dl) := V13.out.up b15.out
      clear FB AB BB OW IN5 X Y U11 V13
      have FB := FBx
      clear FBx
      have AB := ABx
      clear ABx
      have BB := BBx
      clear BBx
      have OW := OWx
      clear OWx
      have IN5 := IN5x
      clear IN5x
      have X := Xx
      clear Xx
      have Y := Yx
      clear Yx
      have U11 := U11x
      clear U11x
      have V13 := V13x
      clear V13x
      go_wp2_with fail
      refine (HN.out _ _).mono ?_
      rintro e w16 ⟨rfl, rfl⟩
      go_wp2_with fail
      refine (HSB.out _ _ _ _ Z.out AB.out).mono ?_
      rintro e w17 ⟨rfl, rfl⟩
      go_wp2_with fail
      refine (HA.out _).mono ?_
      rintro e w20 ⟨rfl, b20⟩
      go_wp2
      go_ret
      exact ⟨rfl, up_trans BB.out b20.out⟩
    · have hi' : (i == 0) = false := by simp [hi]
      go_wp2_with fail
      refine (HA.out _).mono ?_
      rintro e w20 ⟨rfl, b20⟩
      go_wp2
      go_ret
      exact ⟨rfl, up_trans BB.out b20.out⟩
end Go.Proofs.Ytbhlphhgibikeaa
