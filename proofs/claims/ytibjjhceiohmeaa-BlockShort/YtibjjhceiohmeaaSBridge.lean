/- A uint32 of the program as a bit vector: shifts, exclusive or, the highest bit; octets as numbers; what turning one bit of a text does to the register. -/
import Derived.Test.YtibjjhceiohmeaaSMath
import Derived.Laws.BitsAllLaws
namespace Go.Proofs.Ytibjjhceiohmeaa.SumPlain

/-- An octet that is a number. -/
def ob (l : List Int) : List (BitVec 8) := l.map (BitVec.ofInt 8)

theorem ob_append (a b : List Int) : ob (a ++ b) = ob a ++ ob b := by simp [ob]

/-- A register, from c on, over octets. -/
def ext (c : BitVec 32) (l : List Int) : BitVec 32 := extS c (ob l)

theorem ext_app (c : BitVec 32) (a b : List Int) : ext c (a ++ b) = ext (ext c a) b := by
  unfold ext
  rw [ob_append, ext_append]

theorem ext_nil (c : BitVec 32) : ext c [] = c := rfl

theorem ext_snoc (c : BitVec 32) (a : List Int) (x : Int) : ext c (a ++ [x]) = octS (ext c a) (BitVec.ofInt 8 x) := by
  rw [ext_app]
  rfl

theorem u32_of (c : BitVec 32) : (c.toNat : Int) < 4294967296 := by
  have := c.isLt
  omega

theorem xor32 (a b : BitVec 32) : bits .xor .u32 (a.toNat : Int) (b.toNat : Int) = ((a ^^^ b).toNat : Int) := by
  rw [u32_xor_nat a.toNat b.toNat a.isLt b.isLt, BitVec.toNat_xor]

theorem shl32 (c : BitVec 32) (n : Nat) : ((c.toNat : Int) * 2 ^ n) % 4294967296 = ((c <<< n).toNat : Int) := by
  rw [BitVec.toNat_shiftLeft, Nat.shiftLeft_eq, Int.natCast_emod, Int.natCast_mul, Int.natCast_pow]
  rfl

theorem shl32_1 (c : BitVec 32) : ((c.toNat : Int) * 2) % 4294967296 = ((c <<< 1).toNat : Int) := shl32 c 1

theorem msb_big (c : BitVec 32) : c.msb = decide (2147483648 ≤ c.toNat) := by
  rw [BitVec.msb_eq_decide]

theorem and_top (c : BitVec 32) : bits .and .u32 (c.toNat : Int) 2147483648 = if c.msb then 2147483648 else 0 := by
  have e := u32_and_nat c.toNat 2147483648 c.isLt (by decide)
  refine e.trans ?_
  have t : (c.toNat &&& 2147483648) = (c &&& 0x80000000#32).toNat := by rw [BitVec.toNat_and]; rfl
  have f : c &&& 0x80000000#32 = if c.msb then 0x80000000#32 else 0#32 := by
    apply BitVec.eq_of_getLsbD_eq
    intro i hi
    have h2 : ∀ i, i < 32 → (0x80000000#32).getLsbD i = decide (i = 31) := by decide
    rw [BitVec.getLsbD_and, h2 i hi]
    by_cases k : i = 31
    · subst k
      rw [← BitVec.msb_eq_getLsbD_last c]
      cases c.msb <;> simp
    · cases c.msb <;> simp [k, h2 i hi]
  rw [t, f]
  cases c.msb <;> rfl

theorem shr_top (c : BitVec 32) : (c.toNat : Int) / 2147483648 = if c.msb then 1 else 0 := by
  have h := c.isLt
  rw [msb_big]
  by_cases k : 2147483648 ≤ c.toNat
  · simp [k]; omega
  · simp [k]; omega

theorem stp_big (c : BitVec 32) (h : c.msb = true) : bits .xor .u32 ((c <<< 1).toNat : Int) 79764919 = ((stp c).toNat : Int) := by
  have e := xor32 (c <<< 1) poly
  have p : (poly.toNat : Int) = 79764919 := by decide
  rw [p] at e
  rw [e]
  unfold stp
  rw [h]
  rfl

theorem stp_small (c : BitVec 32) (h : c.msb = false) : c <<< 1 = stp c := by
  unfold stp
  rw [h]
  simp

theorem stpN_succ (n : Nat) (c : BitVec 32) : stpN (n + 1) c = stp (stpN n c) := stpN_add n 1 c

theorem ob8 (x : Int) (h0 : 0 ≤ x) (h1 : x ≤ 255) : (BitVec.ofInt 8 x).toNat = x.toNat := by
  obtain ⟨n, rfl⟩ := Int.eq_ofNat_of_zero_le h0
  rw [BitVec.ofInt_natCast, BitVec.toNat_ofNat]
  simp
  omega

theorem ob_inj (x y : Int) (h0 : 0 ≤ x) (h1 : x ≤ 255) (k0 : 0 ≤ y) (k1 : y ≤ 255) (h : BitVec.ofInt 8 x = BitVec.ofInt 8 y) : x = y := by
  have := congrArg BitVec.toNat h
  rw [ob8 x h0 h1, ob8 y k0 k1] at this
  omega

theorem obl_inj : ∀ (a b : List Int), (∀ x ∈ a, 0 ≤ x ∧ x ≤ 255) → (∀ x ∈ b, 0 ≤ x ∧ x ≤ 255) → ob a = ob b → a = b
  | [], [], _, _, _ => rfl
  | [], _ :: _, _, _, h => by simp [ob] at h
  | _ :: _, [], _, _, h => by simp [ob] at h
  | x :: a, y :: b, h1, h2, h => by
    simp only [ob, List.map_cons, List.cons.injEq] at h
    have hx := h1 x (by simp)
    have hy := h2 y (by simp)
    rw [ob_inj x y hx.1 hx.2 hy.1 hy.2 h.1, obl_inj a b (fun z hz => h1 z (by simp [hz])) (fun z hz => h2 z (by simp [hz])) h.2]

theorem top_int (x : Int) (h0 : 0 ≤ x) (h1 : x ≤ 255) : ((top (BitVec.ofInt 8 x)).toNat : Int) = x * 16777216 := by
  unfold top
  rw [BitVec.toNat_shiftLeft, BitVec.toNat_setWidth, ob8 x h0 h1, Nat.shiftLeft_eq]
  omega

theorem in_top (c : BitVec 32) (x : Int) (h0 : 0 ≤ x) (h1 : x ≤ 255) : bits .xor .u32 (c.toNat : Int) (x * 16777216) = ((c ^^^ top (BitVec.ofInt 8 x)).toNat : Int) := by
  rw [← top_int x h0 h1, xor32]

/-- A register's octets as numbers, the highest first. -/
def lastL (c : BitVec 32) : List Int := [(c.toNat : Int) / 16777216 % 256, (c.toNat : Int) / 65536 % 256, (c.toNat : Int) / 256 % 256, (c.toNat : Int) % 256]

theorem lastL_len (c : BitVec 32) : (lastL c).length = 4 := rfl

theorem lastL_octet (c : BitVec 32) : ∀ x ∈ lastL c, 0 ≤ x ∧ x ≤ 255 := by
  intro x hx
  simp only [lastL, List.mem_cons, List.mem_nil_iff, or_false] at hx
  rcases hx with rfl | rfl | rfl | rfl <;> omega

theorem hi_int (c : BitVec 32) (x : Int) (h : x = (c.toNat : Int) / 16777216 % 256) : BitVec.ofInt 8 x = hi8 c := by
  subst h
  apply BitVec.eq_of_toNat_eq
  rw [ob8 _ (by omega) (by omega)]
  unfold hi8
  rw [BitVec.extractLsb'_toNat, Nat.shiftRight_eq_div_pow]
  have := c.isLt
  omega

theorem lastL_ob (c : BitVec 32) : ob (lastL c) = [hi8 c, hi8 (c <<< 8), hi8 (c <<< 16), hi8 (c <<< 24)] := by
  have h := c.isLt
  simp only [ob, lastL, List.map_cons, List.map_nil]
  rw [hi_int c _ rfl, hi_int (c <<< 8) ((c.toNat : Int) / 65536 % 256) (by rw [← shl32 c 8]; omega), hi_int (c <<< 16) ((c.toNat : Int) / 256 % 256) (by rw [← shl32 c 16]; omega), hi_int (c <<< 24) ((c.toNat : Int) % 256) (by rw [← shl32 c 24]; omega)]

/-- What is guarded sums up to 0. -/
theorem ext_guard (c : BitVec 32) (l : List Int) : ext c (l ++ lastL (ext c l)) = 0#32 := by
  rw [ext_app]
  show extS _ (ob (lastL (ext c l))) = _
  rw [lastL_ob]
  exact (ext_own _ _).2 rfl

theorem ob_length (l : List Int) : (ob l).length = l.length := by simp [ob]

/-- What comes behind sees only so many bits. -/
theorem ext_behind : ∀ (l : List (BitVec 8)) (c d : BitVec 32), extS (c ^^^ d) l = extS c l ^^^ stpN (8 * l.length) d
  | [], c, d => rfl
  | x :: l, c, d => by
    have e : octS (c ^^^ d) x = octS c x ^^^ stpN 8 d := by
      unfold octS
      rw [← stpN_xor, BitVec.xor_assoc, BitVec.xor_comm d, ← BitVec.xor_assoc]
    show extS (octS (c ^^^ d) x) l = extS (octS c x) l ^^^ _
    rw [e, ext_behind l, ← stpN_add]
    congr 2
    simp only [List.length_cons]
    omega

theorem bit_top (r : Nat) (h : r < 8) : stpN 8 (top (128#8 >>> r)) = stpN (8 - r) 0x80000000#32 := by
  have : r = 0 ∨ r = 1 ∨ r = 2 ∨ r = 3 ∨ r = 4 ∨ r = 5 ∨ r = 6 ∨ r = 7 := by omega
  rcases this with rfl | rfl | rfl | rfl | rfl | rfl | rfl | rfl <;> decide

/-- One bit of a text is turned. -/
theorem ext_turn (c : BitVec 32) (pre post : List (BitVec 8)) (y : BitVec 8) (r : Nat) (h : r < 8) :
    extS c (pre ++ (y ^^^ (128#8 >>> r)) :: post) = extS c (pre ++ y :: post) ^^^ stpN (8 * post.length + (8 - r)) 0x80000000#32 := by
  rw [ext_append, ext_append]
  generalize extS c pre = d
  show extS (octS d (y ^^^ (128#8 >>> r))) post = extS (octS d y) post ^^^ _
  have e : octS d (y ^^^ (128#8 >>> r)) = octS d y ^^^ stpN (8 - r) 0x80000000#32 := by
    have := oct_xor d 0#32 y (128#8 >>> r)
    rw [BitVec.xor_zero] at this
    rw [this]
    congr 1
    unfold octS
    rw [BitVec.zero_xor, bit_top r h]
  rw [e, ext_behind, ← stpN_add, Nat.add_comm]

/-- What k bits of t, turned from bit at on in a text of n bits, do to the register. -/
def turned (t : BitVec 32) (m k : Nat) : BitVec 32 := stpN m (stpN k t ^^^ (t <<< k))

theorem turned_zero (t : BitVec 32) (m : Nat) : turned t m 0 = 0#32 := by
  unfold turned
  simp [stpN, stpN_zero]

theorem turned_step (t : BitVec 32) (m k : Nat) : turned t m (k + 1) = turned t (m + 1) k ^^^ (if (t <<< k).msb then stpN (m + 1) 0x80000000#32 else 0#32) := by
  unfold turned
  have e : stpN (k + 1) t = bitS (stpN k t ^^^ (t <<< k)) (t <<< k).msb ^^^ (t <<< (k + 1)) := by
    rw [stpN_succ]
    have f := feed1 (stpN k t ^^^ (t <<< k)) (t <<< k)
    rw [BitVec.xor_assoc, BitVec.xor_self, BitVec.xor_zero] at f
    rw [f, ← BitVec.shiftLeft_add]
  rw [e, BitVec.xor_assoc, BitVec.xor_self, BitVec.xor_zero]
  unfold bitS
  have s : ∀ x, stpN (m + 1) x = stpN m (stp x) := fun x => rfl
  rw [s, stp_xor, stpN_xor]
  congr 1
  cases (t <<< k).msb
  · simp [stp_zero, stpN_zero]
  · rfl

theorem turned_all (t : BitVec 32) (m : Nat) (ht : t ≠ 0#32) : turned t m 32 ≠ 0#32 := by
  unfold turned
  intro h
  have h2 := stpN_inj m _ h
  have s : t <<< 32 = 0#32 := by simp
  rw [s, BitVec.xor_zero] at h2
  exact ht (stpN_inj 32 t h2)

theorem xor8 (x y : Int) (h0 : 0 ≤ x) (h1 : x ≤ 255) (k0 : 0 ≤ y) (k1 : y ≤ 255) : BitVec.ofInt 8 (bits .xor .u8 x y) = BitVec.ofInt 8 x ^^^ BitVec.ofInt 8 y ∧ 0 ≤ bits .xor .u8 x y ∧ bits .xor .u8 x y ≤ 255 := by
  have e := u8_xor x y h0 (by omega) k0 (by omega)
  have hx : x.toNat ^^^ y.toNat < 2 ^ 8 := Nat.xor_lt_two_pow (by omega) (by omega)
  refine ⟨?_, by omega, by omega⟩
  apply BitVec.eq_of_toNat_eq
  rw [BitVec.toNat_xor, ob8 x h0 h1, ob8 y k0 k1, e, ob8 _ (by omega) (by omega)]
  simp

/-- Octet by octet. -/
def xorL (a b : List Int) : List Int := List.zipWith (fun x y => bits .xor .u8 x y) a b

theorem ob_xorL : ∀ (a b : List Int), (∀ x ∈ a, 0 ≤ x ∧ x ≤ 255) → (∀ x ∈ b, 0 ≤ x ∧ x ≤ 255) → ob (xorL a b) = List.zipWith (· ^^^ ·) (ob a) (ob b) ∧ ∀ x ∈ xorL a b, 0 ≤ x ∧ x ≤ 255
  | [], _, _, _ => by simp [xorL, ob]
  | _ :: _, [], _, _ => by simp [xorL, ob]
  | x :: a, y :: b, h1, h2 => by
    have hx := h1 x (by simp)
    have hy := h2 y (by simp)
    obtain ⟨e, f⟩ := ob_xorL a b (fun z hz => h1 z (by simp [hz])) (fun z hz => h2 z (by simp [hz]))
    have g := xor8 x y hx.1 hx.2 hy.1 hy.2
    constructor
    · simp only [xorL, ob, List.zipWith_cons_cons, List.map_cons, g.1]
      congr 1
    · intro z hz
      simp only [xorL, List.zipWith_cons_cons, List.mem_cons] at hz
      rcases hz with rfl | hz
      · exact g.2
      · exact f z hz

theorem ext_xorL (a b : List Int) (ha : ∀ x ∈ a, 0 ≤ x ∧ x ≤ 255) (hb : ∀ x ∈ b, 0 ≤ x ∧ x ≤ 255) (h : a.length = b.length) (c d : BitVec 32) : ext (c ^^^ d) (xorL a b) = ext c a ^^^ ext d b := by
  unfold ext
  rw [(ob_xorL a b ha hb).1, ext_xor _ _ _ _ (by rw [ob_length, ob_length, h])]

def ones : BitVec 32 := 0xffffffff#32

/-- Three texts of one length. -/
theorem ext_three (a b c : List Int) (ha : ∀ x ∈ a, 0 ≤ x ∧ x ≤ 255) (hb : ∀ x ∈ b, 0 ≤ x ∧ x ≤ 255) (hc : ∀ x ∈ c, 0 ≤ x ∧ x ≤ 255) (h : a.length = b.length) (k : a.length = c.length) :
    ext ones (xorL (xorL a b) c) = ext ones a ^^^ ext ones b ^^^ ext ones c := by
  have e : ones = (ones ^^^ ones) ^^^ ones := by decide
  conv => lhs; rw [e]
  rw [ext_xorL _ _ (ob_xorL a b ha hb).2 hc (by simp [xorL]; omega), ext_xorL a b ha hb h]

/-- What Bare says: the error, and what is answered. -/
def bareOf (l : List Int) : List Int × Int := if l.length < 4 then ([], 8) else if l.drop (l.length - 4) = lastL (ext ones (l.take (l.length - 4))) then (l.take (l.length - 4), 0) else ([], 21)

theorem bare_guard (l : List Int) : bareOf (l ++ lastL (ext ones l)) = (l, 0) := by
  unfold bareOf
  have e : (l ++ lastL (ext ones l)).length = l.length + 4 := by simp [lastL_len]
  rw [e, if_neg (by omega), Nat.add_sub_cancel]
  simp

theorem bare_not (l : List Int) (h4 : 4 ≤ l.length) (h : ext ones l ≠ 0#32) : bareOf l = ([], 21) := by
  unfold bareOf
  rw [if_neg (by omega)]
  by_cases c : l.drop (l.length - 4) = lastL (ext ones (l.take (l.length - 4)))
  · exfalso
    apply h
    have := ext_guard ones (l.take (l.length - 4))
    rw [← c, List.take_append_drop] at this
    exact this
  · rw [if_neg c]

/-- One octet of a text, written over by itself with one bit turned. -/
theorem ext_set (c : BitVec 32) (l : List Int) (p : Nat) (hl : ∀ x ∈ l, 0 ≤ x ∧ x ≤ 255) (h : p < 8 * l.length) (m : Int) (hm : m = ((128#8 >>> (p % 8)).toNat : Int)) :
    ext c (l.set (p / 8) (bits .xor .u8 (l.getD (p / 8) 0) m)) = ext c l ^^^ stpN (8 * l.length - p) 0x80000000#32 ∧ ∀ x ∈ l.set (p / 8) (bits .xor .u8 (l.getD (p / 8) 0) m), 0 ≤ x ∧ x ≤ 255 := by
  have hp : p / 8 < l.length := by omega
  have hy := hl (l.getD (p / 8) 0) (by simp [List.getD, hp])
  have hb := (128#8 >>> (p % 8)).isLt
  have hx := xor8 (l.getD (p / 8) 0) m hy.1 hy.2 (by omega) (by omega)
  have hmb : BitVec.ofInt 8 m = 128#8 >>> (p % 8) := by
    apply BitVec.eq_of_toNat_eq
    rw [ob8 m (by omega) (by omega), hm]
    rfl
  constructor
  · have e1 : l = l.take (p / 8) ++ l.getD (p / 8) 0 :: l.drop (p / 8 + 1) := by
      have : l.getD (p / 8) 0 = l[p / 8] := by simp [List.getD, hp]
      rw [this, List.getElem_cons_drop, List.take_append_drop]
    have e2 : l.set (p / 8) (bits .xor .u8 (l.getD (p / 8) 0) m) = l.take (p / 8) ++ bits .xor .u8 (l.getD (p / 8) 0) m :: l.drop (p / 8 + 1) := by
      rw [List.set_eq_take_append_cons_drop, if_pos hp]
    rw [e2]
    conv => rhs; rw [e1]
    unfold ext
    simp only [ob, List.map_append, List.map_cons]
    rw [hx.1, hmb, ext_turn c _ _ _ (p % 8) (by omega)]
    congr 2
    simp only [List.length_map, List.length_drop, List.length_append, List.length_cons, List.length_take]
    omega
  · intro x hxm
    rcases List.mem_or_eq_of_mem_set hxm with h1 | h1
    · exact hl x h1
    · rw [h1]; exact hx.2

end Go.Proofs.Ytibjjhceiohmeaa.SumPlain
