/- BlockShort walked upon what is wanted of the program. -/
import Derived.Test.YtibjjhceiohmeaaYAlive
namespace Go.Proofs.Ytibjjhceiohmeaa
open Go.RowKit SumPlain
set_option linter.unusedVariables false
set_option linter.unusedSimpArgs false

theorem nums_append (a b : ByteArray) : nums (a ++ b) = nums a ++ nums b := by
  have h := str_cat (nums a) (nums b)
  rw [str_nums, str_nums] at h
  rw [h, nums_str]
  intro x hx
  rcases List.mem_append.1 hx with q | q
  · exact nums_octet a x q
  · exact nums_octet b x q
theorem lessL_own : ∀ (a l r : List Int) (p q : Int), p < q → lessL (a ++ p :: l) (a ++ q :: r) = true
  | [], l, r, p, q, h => by simp [lessL, h]
  | x :: a, l, r, p, q, h => by
    have := lessL_own a l r p q h
    simp [lessL, this]
/-- The two versions that BlockShort builds. -/
def shX (A : ByteArray) : En := ⟨A ++ ⟨#[109]⟩, 1, 1, ⟨#[]⟩⟩
def shY (A T : ByteArray) : En := ⟨A ++ ⟨#[110]⟩ ++ T, 1, 1, ⟨#[]⟩⟩
theorem shX_nums (A : ByteArray) : nums (shX A).key = nums A ++ [109] := by
  show nums (A ++ ⟨#[109]⟩) = _
  rw [nums_append]; rfl
theorem shY_nums (A T : ByteArray) : nums (shY A T).key = nums A ++ 110 :: nums T := by
  show nums (A ++ ⟨#[110]⟩ ++ T) = _
  rw [nums_append, nums_append, List.append_assoc]; rfl
theorem shX_may (A : ByteArray) (h : A.size ≤ 30) : mayE (shX A) = true := by
  have e := congrArg List.length (shX_nums A)
  rw [nums_length] at e
  simp only [List.length_append, List.length_cons, List.length_nil, nums_length] at e
  have k1 : (shX A).seq = 1 := rfl
  have k2 : (shX A).kind = 1 := rfl
  have k3 : (shX A).val.size = 0 := rfl
  unfold mayE
  exact decide_eq_true ⟨by omega, by omega, by omega, by omega, .inl k2, by omega, .inl k2⟩
theorem shY_may (A T : ByteArray) (h : A.size ≤ 30) (h2 : T.size ≤ 30) : mayE (shY A T) = true := by
  have e := congrArg List.length (shY_nums A T)
  rw [nums_length] at e
  simp only [List.length_append, List.length_cons, List.length_nil, nums_length] at e
  have k1 : (shY A T).seq = 1 := rfl
  have k2 : (shY A T).kind = 1 := rfl
  have k3 : (shY A T).val.size = 0 := rfl
  unfold mayE
  exact decide_eq_true ⟨by omega, by omega, by omega, by omega, .inl k2, by omega, .inl k2⟩
theorem sh_before (A T : ByteArray) : beforeE (shX A) (shY A T) = true := by
  unfold beforeE
  have h := str_less (nums (shX A).key) (nums (shY A T).key) (nums_octet _) (nums_octet _)
  rw [str_nums, str_nums, shX_nums, shY_nums, lessL_own _ _ _ _ _ (by decide)] at h
  rw [h]
  rfl
theorem sh_chk (A T : ByteArray) (h : A.size ≤ 30) (h2 : T.size ≤ 30) : chkB [shX A, shY A T] = 0 ∧ chkB [shX A] = 0 ∧ chkB [shY A T] = 0 := by
  have m1 := shX_may A h
  have m2 := shY_may A T h h2
  have b := sh_before A T
  refine ⟨?_, ?_, ?_⟩ <;> (unfold chkB; rw [if_neg (by simp)]; simp [ordE, m1, m2, aheadE, b])
theorem sh_len (A T : ByteArray) (h : A.size ≤ 30) (h2 : T.size ≤ 30) : (encB [shX A, shY A T]).1.length + 7 + A.size = (encB [shX A]).1.length + (encB [shY A T]).1.length := by
  obtain ⟨c1, c2, c3⟩ := sh_chk A T h h2
  have e1 := congrArg List.length (shX_nums A)
  have e2 := congrArg List.length (shY_nums A T)
  simp only [List.length_append, List.length_cons, List.length_nil] at e1 e2
  have l1 := nums_length A
  have l2 := nums_length T
  have := short_len (shX A) (shY A T) (nums A) [] (nums T) 109 110 (by decide) (shX_nums A) (shY_nums A T) (by omega) (by omega) rfl rfl rfl rfl c1 c2 c3
  rw [l1] at this
  exact this

set_option maxHeartbeats 4000000 in
set_option maxRecDepth 100000 in
theorem short_walk (P : Pg) (a t : ByteArray) (w : World) :
    Calls Try.prog 7 #[.string a, .string t] w fun e w' => e = .returned (.bool true) ∧ Below w.heap.size w w' := by
  have HP : Hid Pg := P
  clear P
  obtain ⟨m1, hm1⟩ : ∃ m : Nat, (if (30 : Int) < (a.size : Int) then 30 else (a.size : Int)) = (m : Int) := ⟨min a.size 30, by split <;> omega⟩
  obtain ⟨m2, hm2⟩ : ∃ m : Nat, (if (30 : Int) < (t.size : Int) then 30 else (t.size : Int)) = (m : Int) := ⟨min t.size 30, by split <;> omega⟩
  have l1 : m1 ≤ 30 ∧ (m1 : Int) ≤ (a.size : Int) := by split at hm1 <;> omega
  have l2 : m2 ≤ 30 ∧ (m2 : Int) ≤ (t.size : Int) := by split at hm2 <;> omega
  have i1 := l1.2
  have i2 := l2.2
  have i3 : (0 : Int) ≤ (m1 : Int) := by omega
  have i4 : (0 : Int) ≤ (m2 : Int) := by omega
  have S1 : Hid ((a.extract 0 m1).size ≤ 30) := by unfold Hid; rw [ByteArray.size_extract]; omega
  have S2 : Hid ((t.extract 0 m2).size ≤ 30) := by unfold Hid; rw [ByteArray.size_extract]; omega
  go_enter Try.func7, Try.ntmps7
  go_wp2_with fail
  refine (HP.out.alive _).mono ?_
  rintro e w1 ⟨rfl, b1⟩
  go_wp2_with fail
  go_quiet (fail)
  have U1 : Hid (Below w.heap.size w (w1.drewN nq)) := up_trans b1.out (up_drewN _ _)
  generalize w1.drewN nq = W1 at *
  generalize a.extract 0 m1 = A at *
  generalize t.extract 0 m2 = T at *
  clear b1 l1 l2 i1 i2 i3 i4
  have HX : Hid (∀ W : World, EntsR (W.alloc (.cells #[.string (A ++ ⟨#[109]⟩), .int .i64 1, .int .i64 1, .string ⟨#[]⟩] 36)) (.slice (some ⟨W.heap.size, 0, none⟩) 1 1) [shX A]) := fun W => Rws.made (sz := 4) W 36 [enRow (shX A)] (by simp [enRow]) (by simp [maxLen])
  have HY : Hid (∀ W : World, EntsR (W.alloc (.cells #[.string (A ++ ⟨#[110]⟩ ++ T), .int .i64 1, .int .i64 1, .string ⟨#[]⟩] 36)) (.slice (some ⟨W.heap.size, 0, none⟩) 1 1) [shY A T]) := fun W => Rws.made (sz := 4) W 36 [enRow (shY A T)] (by simp [enRow]) (by simp [maxLen])
  have HXY : Hid (∀ W : World, EntsR (W.alloc (.cells #[.string (A ++ ⟨#[109]⟩), .int .i64 1, .int .i64 1, .string ⟨#[]⟩, .string (A ++ ⟨#[110]⟩ ++ T), .int .i64 1, .int .i64 1, .string ⟨#[]⟩] 36)) (.slice (some ⟨W.heap.size, 0, none⟩) 2 2) [shX A, shY A T]) := fun W => Rws.made (sz := 4) W 36 [enRow (shX A), enRow (shY A T)] (by simp [enRow]) (by simp [maxLen])
  obtain ⟨c1, c2, c3⟩ := sh_chk A T S1.out S2.out
  have hE : ∀ l, chkB l = 0 → ∀ (v : Value) (W : World), EntsR W v l → Calls Try.prog 11 #[v] W fun e w' => ∃ a n c, e = .returned (.tuple #[.slice a n c, .int .i64 0]) ∧ Hid (n = (encB l).1.length) ∧ Hid (Below W.heap.size W w') := by
    intro l h0 v W h
    refine (HP.out.enc l v W h).mono ?_
    rintro e w' ⟨a, n, c, rfl, hn, _, hb⟩
    rw [encB_zero.2 h0]
    exact ⟨a, n, c, rfl, hn, hb⟩
  have E1 := hid (hE _ c1)
  have E2 := hid (hE _ c2)
  have E3 := hid (hE _ c3)
  have HLN : Hid ((encB [shX A, shY A T]).1.length + 7 + A.size = (encB [shX A]).1.length + (encB [shY A T]).1.length) := sh_len A T S1.out S2.out
  have HB := fun W => refBefore_any (shX A) (shY A T) W
  rw [sh_before A T] at HB
  have L1 := encB_len [shX A, shY A T]
  have L2 := encB_len [shX A]
  have L3 := encB_len [shY A T]
  have HL4 : Hid ((encB [shX A, shY A T]).1.length ≤ 41500 ∧ (encB [shX A]).1.length ≤ 41500 ∧ (encB [shY A T]).1.length ≤ 41500) := ⟨L1, L2, L3⟩
  have hsx : ¬ 9223372036854775807 < A.size + 1 := by have := S1.out; omega
  have hsy : ¬ 9223372036854775807 < A.size + 1 + T.size := by have := S1.out; have := S2.out; omega
  unfold enV shX shY at HB
  replace HB := hid HB
  unfold enObj at HB
  clear hE c1 c2 c3 hm1 hm2 L1 L2 L3
  generalize (encB [shX A, shY A T]).1.length = k1 at *
  generalize (encB [shX A]).1.length = k2 at *
  generalize (encB [shY A T]).1.length = k3 at *
  generalize shX A = X at *
  generalize shY A T = Y at *
  go_wp2_with fail
  generalize A ++ (⟨#[109]⟩ : ByteArray) = KX at *
  generalize A ++ (⟨#[110]⟩ : ByteArray) = KY1 at *
  generalize KY1 ++ T = KY at *
  obtain ⟨WB, hWB⟩ : ∃ WB, WB = (W1.alloc (.cells #[.string KX, .int .i64 1, .int .i64 1, .string ⟨#[]⟩] 36)).alloc (.cells #[.string KY, .int .i64 1, .int .i64 1, .string ⟨#[]⟩] 36) := ⟨_, rfl⟩
  have BX : Hid (WB.heap[W1.heap.size]? = some (.cells #[.string KX, .int .i64 1, .int .i64 1, .string ⟨#[]⟩] 36)) := by rw [hWB]; exact blk_up (blk_new _ _) (up_alloc _ _)
  have SB : Hid (WB.heap.size = W1.heap.size + 1 + 1) := by rw [hWB]; unfold Hid; simp
  have BY : Hid (WB.heap[W1.heap.size + 1]? = some (.cells #[.string KY, .int .i64 1, .int .i64 1, .string ⟨#[]⟩] 36)) := by
    have := blk_new (W1.alloc (.cells #[.string KX, .int .i64 1, .int .i64 1, .string ⟨#[]⟩] 36)) (.cells #[.string KY, .int .i64 1, .int .i64 1, .string ⟨#[]⟩] 36)
    have e : (W1.alloc (.cells #[.string KX, .int .i64 1, .int .i64 1, .string ⟨#[]⟩] 36)).heap.size = W1.heap.size + 1 := by simp
    rw [e] at this
    rw [hWB]
    exact this
  have UB : Hid (Below w.heap.size w WB) := by rw [hWB]; exact up_al (up_al U1.out _) _
  rw [← hWB]
  have HE1 := HXY.out WB
  rw [SB.out] at HE1
  clear hWB
  refine (E1.out _ _ HE1).mono ?_
  rintro e w2 ⟨a2, n2, c2, rfl, hn2, u2⟩
  have U2 : Hid (Below WB.heap.size WB w2) := up_trans (up_alloc _ _) u2.out
  have BX2 : Hid (w2.heap[W1.heap.size]? = some (.cells #[.string KX, .int .i64 1, .int .i64 1, .string ⟨#[]⟩] 36)) := blk_up BX.out U2.out
  have BY2 : Hid (w2.heap[W1.heap.size + 1]? = some (.cells #[.string KY, .int .i64 1, .int .i64 1, .string ⟨#[]⟩] 36)) := blk_up BY.out U2.out
  have UU2 : Hid (Below w.heap.size w w2) := up_trans UB.out U2.out
  clear HE1 u2 U2 BX BY UB E1 HXY SB
  have x0 := blk_cell BX2.out 0 _ rfl
  have x1 := blk_cell BX2.out 1 _ rfl
  have x2 := blk_cell BX2.out 2 _ rfl
  have x3 := blk_cell BX2.out 3 _ rfl
  go_wp2_with fail
  refine (E2.out _ _ (HX.out w2)).mono ?_
  rintro e w3 ⟨a3, n3, c3, rfl, hn3, u3⟩
  have U3 : Hid (Below w2.heap.size w2 w3) := up_trans (up_alloc _ _) u3.out
  have BX3 : Hid (w3.heap[W1.heap.size]? = some (.cells #[.string KX, .int .i64 1, .int .i64 1, .string ⟨#[]⟩] 36)) := blk_up BX2.out U3.out
  have BY3 : Hid (w3.heap[W1.heap.size + 1]? = some (.cells #[.string KY, .int .i64 1, .int .i64 1, .string ⟨#[]⟩] 36)) := blk_up BY2.out U3.out
  have UU3 : Hid (Below w.heap.size w w3) := up_trans UU2.out U3.out
  clear x0 x1 x2 x3 u3 U3 BX2 BY2 UU2 E2 HX
  have y0 := blk_cell BY3.out 0 _ rfl
  have y1 := blk_cell BY3.out 1 _ rfl
  have y2 := blk_cell BY3.out 2 _ rfl
  have y3 := blk_cell BY3.out 3 _ rfl
  go_wp2_with fail
  refine (E3.out _ _ (HY.out w3)).mono ?_
  rintro e w4 ⟨a4, n4, c4, rfl, hn4, u4⟩
  have U4 : Hid (Below w3.heap.size w3 w4) := up_trans (up_alloc _ _) u4.out
  have BX4 : Hid (w4.heap[W1.heap.size]? = some (.cells #[.string KX, .int .i64 1, .int .i64 1, .string ⟨#[]⟩] 36)) := blk_up BX3.out U4.out
  have BY4 : Hid (w4.heap[W1.heap.size + 1]? = some (.cells #[.string KY, .int .i64 1, .int .i64 1, .string ⟨#[]⟩] 36)) := blk_up BY3.out U4.out
  have UU4 : Hid (Below w.heap.size w w4) := up_trans UU3.out U4.out
  clear y0 y1 y2 y3 u4 U4 BX3 BY3 UU3 E3 HY
  have x0 := blk_cell BX4.out 0 _ rfl
  have x1 := blk_cell BX4.out 1 _ rfl
  have x2 := blk_cell BX4.out 2 _ rfl
  have x3 := blk_cell BX4.out 3 _ rfl
  have y0 := blk_cell BY4.out 0 _ rfl
  have y1 := blk_cell BY4.out 1 _ rfl
  have y2 := blk_cell BY4.out 2 _ rfl
  have y3 := blk_cell BY4.out 3 _ rfl
  have HN := hid num_any
  have q2 := hn2.out
  have q3 := hn3.out
  have q4 := hn4.out
  have hln := HLN.out
  have hl4 := HL4.out
  have HQ : Hid ((n3 : Int) + (n4 : Int) - 7 - (A.size : Int) = (n2 : Int)) := by unfold Hid; omega
  have HQ2 : Hid (n3 ≤ 41500 ∧ n4 ≤ 41500 ∧ A.size ≤ 30 ∧ 7 + A.size ≤ n3 + n4) := ⟨by omega, by omega, S1.out, by omega⟩
  obtain ⟨s1, hs1⟩ : ∃ s1 : Int, (n3 : Int) + (n4 : Int) = s1 := ⟨_, rfl⟩
  obtain ⟨s2, hs2⟩ : ∃ s2 : Int, s1 - 7 = s2 := ⟨_, rfl⟩
  have hs3 : s2 - (A.size : Int) = (n2 : Int) := by have := HQ.out; omega
  have ws1 : IntKind.i64.wrap s1 = s1 := by have := HQ2.out; rw [IntKind.wrap_i64]; omega
  have ws2 : IntKind.i64.wrap s2 = s2 := by have := HQ2.out; rw [IntKind.wrap_i64]; omega
  have ws3 : IntKind.i64.wrap (n2 : Int) = (n2 : Int) := by have := HQ2.out; rw [IntKind.wrap_i64]; omega
  clear q2 q3 q4 hln hl4 hn2 hn3 hn4
  go_wp2_with fail
  refine (HN.out 0 _).mono ?_
  rintro e w5 ⟨rfl, rfl⟩
  go_wp2_with fail
  refine (HN.out 0 _).mono ?_
  rintro e w6 ⟨rfl, rfl⟩
  go_wp2_with fail
  refine (HN.out 0 _).mono ?_
  rintro e w7 ⟨rfl, rfl⟩
  go_wp2_with fail
  refine (HB.out _).mono ?_
  rintro e w8 ⟨rfl, hw8⟩
  have U8 : Hid (Below w.heap.size w w8) := by rw [hw8]; exact up_al (up_al UU4.out _) _
  clear hw8
  go_wp2_with fail
  go_ret
  exact ⟨rfl, U8.out⟩
end Go.Proofs.Ytibjjhceiohmeaa
