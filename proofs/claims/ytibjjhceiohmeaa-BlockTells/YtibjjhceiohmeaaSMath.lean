/- A checksum's register of 32 bits as plain bit vectors: it goes on, it is linear, what is guarded sums up to 0, and up to 32 bits in a row that are turned are told. -/
namespace Go.Proofs.Ytibjjhceiohmeaa.SumPlain

def poly : BitVec 32 := 0x04c11db7#32

/-- One bit: shifted left, the polynomial where a 1 fell out. -/
def stp (c : BitVec 32) : BitVec 32 := (c <<< 1) ^^^ (if c.msb then poly else 0#32)

theorem xor_four {n : Nat} (a b c d : BitVec n) : (a ^^^ b) ^^^ (c ^^^ d) = (a ^^^ c) ^^^ (b ^^^ d) := by
  rw [BitVec.xor_assoc, ← BitVec.xor_assoc b c d, BitVec.xor_comm b c, BitVec.xor_assoc c b d, ← BitVec.xor_assoc]

theorem stp_xor (c d : BitVec 32) : stp (c ^^^ d) = stp c ^^^ stp d := by
  unfold stp
  rw [BitVec.msb_xor, BitVec.shiftLeft_xor_distrib, xor_four]
  congr 1
  cases c.msb <;> cases d.msb <;> simp

theorem stp_zero : stp 0#32 = 0#32 := by decide

theorem stp_inj (c : BitVec 32) (h : stp c = 0#32) : c = 0#32 := by
  have h0 : (stp c).getLsbD 0 = false := by rw [h]; simp
  have hm : c.msb = false := by
    unfold stp at h0
    rw [BitVec.getLsbD_xor] at h0
    cases hc : c.msb
    · rfl
    · rw [hc] at h0
      have p0 : poly[0] = true := by decide
      simp [p0] at h0
  unfold stp at h
  rw [hm] at h
  simp at h
  apply BitVec.eq_of_getLsbD_eq
  intro i hi
  rw [BitVec.getLsbD_zero]
  by_cases c31 : i = 31
  · subst c31
    rw [BitVec.msb_eq_getLsbD_last] at hm
    exact hm
  · have := congrArg (fun v => v.getLsbD (i + 1)) h
    simp [BitVec.getLsbD_shiftLeft] at this
    exact this (by omega)

/-- So many bits. -/
def stpN : Nat → BitVec 32 → BitVec 32
  | 0, c => c
  | n + 1, c => stpN n (stp c)

theorem stpN_xor : ∀ (n : Nat) (c d : BitVec 32), stpN n (c ^^^ d) = stpN n c ^^^ stpN n d
  | 0, _, _ => rfl
  | n + 1, c, d => by
    show stpN n (stp (c ^^^ d)) = stpN n (stp c) ^^^ stpN n (stp d)
    rw [stp_xor, stpN_xor n]
theorem stpN_zero : ∀ n, stpN n 0#32 = 0#32
  | 0 => rfl
  | n + 1 => by
    show stpN n (stp 0#32) = _
    rw [stp_zero, stpN_zero n]
theorem stpN_inj : ∀ (n : Nat) (c : BitVec 32), stpN n c = 0#32 → c = 0#32
  | 0, _, h => h
  | n + 1, c, h => stp_inj c (stpN_inj n (stp c) h)
theorem stpN_add : ∀ (n m : Nat) (c : BitVec 32), stpN (n + m) c = stpN m (stpN n c)
  | 0, m, c => by rw [Nat.zero_add]; rfl
  | n + 1, m, c => by
    rw [Nat.add_right_comm]
    exact stpN_add n m (stp c)

/-- An octet at the register's top. -/
def top (x : BitVec 8) : BitVec 32 := (x.setWidth 32) <<< 24

theorem top_xor (x y : BitVec 8) : top (x ^^^ y) = top x ^^^ top y := by
  unfold top
  rw [BitVec.setWidth_xor, BitVec.shiftLeft_xor_distrib]

/-- One octet. -/
def octS (c : BitVec 32) (x : BitVec 8) : BitVec 32 := stpN 8 (c ^^^ top x)

def extS (c : BitVec 32) (l : List (BitVec 8)) : BitVec 32 := l.foldl octS c

theorem ext_append (c : BitVec 32) (a b : List (BitVec 8)) : extS c (a ++ b) = extS (extS c a) b := by simp [extS]

theorem oct_xor (c d : BitVec 32) (x y : BitVec 8) : octS (c ^^^ d) (x ^^^ y) = octS c x ^^^ octS d y := by
  unfold octS
  rw [top_xor, xor_four, stpN_xor]

theorem ext_xor : ∀ (a b : List (BitVec 8)) (c d : BitVec 32), a.length = b.length → extS (c ^^^ d) (List.zipWith (· ^^^ ·) a b) = extS c a ^^^ extS d b
  | [], [], c, d, _ => rfl
  | [], _ :: _, _, _, h => by simp at h
  | _ :: _, [], _, _, h => by simp at h
  | x :: a, y :: b, c, d, h => by
    show extS (octS (c ^^^ d) (x ^^^ y)) (List.zipWith (· ^^^ ·) a b) = extS (octS c x) a ^^^ extS (octS d y) b
    rw [oct_xor, ext_xor a b _ _ (by simpa using h)]

/-- Nothing falls out: a plain shift. -/
theorem stpN_low : ∀ (n : Nat) (r : BitVec 32), n ≤ 32 → r.toNat < 2 ^ (32 - n) → stpN n r = r <<< n
  | 0, r, _, _ => by simp [stpN]
  | n + 1, r, hn, h => by
    have hlt : r.toNat < 2 ^ 31 := Nat.lt_of_lt_of_le h (Nat.pow_le_pow_right (by omega) (by omega))
    have hm : r.msb = false := by
      rw [BitVec.msb_eq_decide]
      simp
      omega
    have e : stp r = r <<< 1 := by unfold stp; rw [hm]; simp
    have hp : 2 ^ (32 - n) = 2 * 2 ^ (32 - (n + 1)) := by
      have : 32 - n = 32 - (n + 1) + 1 := by omega
      rw [this, Nat.pow_succ]
      omega
    have ht : (r <<< 1).toNat = 2 * r.toNat := by
      rw [BitVec.toNat_shiftLeft, Nat.shiftLeft_eq]
      have : r.toNat * 2 ^ 1 < 2 ^ 32 := by omega
      rw [Nat.mod_eq_of_lt this]
      omega
    show stpN n (stp r) = _
    rw [e, stpN_low n (r <<< 1) (by omega) (by rw [ht, hp]; omega), ← BitVec.shiftLeft_add, Nat.add_comm]

/-- A word's octets, the highest first. -/
def hi8 (w : BitVec 32) : BitVec 8 := w.extractLsb' 24 8

theorem split_top (w : BitVec 32) : w = top (hi8 w) ^^^ (w &&& 0xffffff#32) := by
  apply BitVec.eq_of_getLsbD_eq
  intro i hi
  have hmask : ∀ i, i < 32 → (0xffffff#32).getLsbD i = decide (i < 24) := by decide
  simp only [top, hi8, BitVec.getLsbD_xor, BitVec.getLsbD_and, BitVec.getLsbD_shiftLeft, BitVec.getLsbD_setWidth, BitVec.getLsbD_extractLsb', hmask i hi]
  by_cases c : i < 24
  · simp [c]
  · have e : 24 + (i - 24) = i := by omega
    have e2 : i - 24 < 8 := by omega
    have e3 : i - 24 < 32 := by omega
    simp [c, e, e2, e3, hi]

theorem low_small (w : BitVec 32) : (w &&& 0xffffff#32).toNat < 2 ^ (32 - 8) := by
  rw [BitVec.toNat_and]
  exact Nat.lt_of_le_of_lt Nat.and_le_right (by decide)

theorem low_shift (w : BitVec 32) : (w &&& 0xffffff#32) <<< 8 = w <<< 8 := by
  apply BitVec.eq_of_getLsbD_eq
  intro i hi
  have hmask : ∀ i, i < 32 → (0xffffff#32).getLsbD i = decide (i < 24) := by decide
  simp only [BitVec.getLsbD_shiftLeft, BitVec.getLsbD_and]
  by_cases c : i < 8
  · simp [c]
  · rw [hmask (i - 8) (by omega)]
    have : i - 8 < 24 := by omega
    simp [this]

/-- Eight bits of a word in the register. -/
theorem feed8 (c w : BitVec 32) : stpN 8 (c ^^^ w) = octS c (hi8 w) ^^^ (w <<< 8) := by
  have e : c ^^^ w = (c ^^^ top (hi8 w)) ^^^ (w &&& 0xffffff#32) := by
    rw [BitVec.xor_assoc, ← split_top]
  rw [e, stpN_xor, stpN_low 8 _ (by omega) (low_small w), low_shift]
  rfl

/-- Four octets of a word, one behind the other, are the word in the register, 32 bits on. -/
theorem feed32 (c w : BitVec 32) : extS c [hi8 w, hi8 (w <<< 8), hi8 (w <<< 16), hi8 (w <<< 24)] = stpN 32 (c ^^^ w) := by
  have e32 : stpN 32 (c ^^^ w) = stpN 8 (stpN 8 (stpN 8 (stpN 8 (c ^^^ w)))) := by
    show stpN (8 + (8 + (8 + 8))) _ = _
    rw [stpN_add, stpN_add, stpN_add]
  rw [e32, feed8, feed8, feed8, feed8]
  have s2 : w <<< 8 <<< 8 = w <<< 16 := by rw [← BitVec.shiftLeft_add]
  have s3 : w <<< 16 <<< 8 = w <<< 24 := by rw [← BitVec.shiftLeft_add]
  have s4 : w <<< 24 <<< 8 = 0#32 := by rw [← BitVec.shiftLeft_add]; simp
  rw [s2, s3, s4, BitVec.xor_zero]
  rfl

/-- What is guarded sums up to 0: just the register's own octets bring it to 0. -/
theorem ext_own (c w : BitVec 32) : extS c [hi8 w, hi8 (w <<< 8), hi8 (w <<< 16), hi8 (w <<< 24)] = 0#32 ↔ c = w := by
  rw [feed32]
  constructor
  · intro h
    have := stpN_inj 32 _ h
    have e : c = (c ^^^ w) ^^^ w := by rw [BitVec.xor_assoc, BitVec.xor_self, BitVec.xor_zero]
    rw [e, this, BitVec.zero_xor]
  · intro h
    subst h
    rw [BitVec.xor_self, stpN_zero]

/-- One bit into the register. -/
def bitS (c : BitVec 32) (b : Bool) : BitVec 32 := stp (c ^^^ (if b then 0x80000000#32 else 0#32))

/-- The first n bits of a word, the highest first. -/
def bitsOf (w : BitVec 32) : Nat → List Bool
  | 0 => []
  | n + 1 => w.msb :: bitsOf (w <<< 1) n

theorem split_msb (w : BitVec 32) : w = (if w.msb then 0x80000000#32 else 0#32) ^^^ (w &&& 0x7fffffff#32) := by
  apply BitVec.eq_of_getLsbD_eq
  intro i hi
  have h1 : ∀ i, i < 32 → (0x7fffffff#32).getLsbD i = decide (i < 31) := by decide
  have h2 : ∀ i, i < 32 → (0x80000000#32).getLsbD i = decide (i = 31) := by decide
  rw [BitVec.getLsbD_xor, BitVec.getLsbD_and, h1 i hi]
  by_cases c : i = 31
  · subst c
    rw [← BitVec.msb_eq_getLsbD_last w]
    cases hm : w.msb
    · simp
    · have := h2 31 (by decide)
      simp
  · have c2 : i < 31 := by omega
    cases hm : w.msb
    · simp [c2]
    · have := h2 i hi
      simp [c2, c, this]

theorem feed1 (c w : BitVec 32) : stp (c ^^^ w) = bitS c w.msb ^^^ (w <<< 1) := by
  have hs : (w &&& 0x7fffffff#32).toNat < 2 ^ (32 - 1) := by
    rw [BitVec.toNat_and]
    exact Nat.lt_of_le_of_lt Nat.and_le_right (by decide)
  have hl : stp (w &&& 0x7fffffff#32) = w <<< 1 := by
    have e := stpN_low 1 (w &&& 0x7fffffff#32) (by omega) hs
    have e2 : (w &&& 0x7fffffff#32) <<< 1 = w <<< 1 := by
      apply BitVec.eq_of_getLsbD_eq
      intro i hi
      have h1 : ∀ i, i < 32 → (0x7fffffff#32).getLsbD i = decide (i < 31) := by decide
      rw [BitVec.getLsbD_shiftLeft, BitVec.getLsbD_shiftLeft, BitVec.getLsbD_and]
      by_cases c : i < 1
      · simp [c]
      · rw [h1 (i - 1) (by omega)]
        have : i - 1 < 31 := by omega
        simp [this]
    rw [← e2, ← e]
    rfl
  have e : c ^^^ w = (c ^^^ (if w.msb then 0x80000000#32 else 0#32)) ^^^ (w &&& 0x7fffffff#32) := by
    rw [BitVec.xor_assoc, ← split_msb]
  rw [e, stp_xor, hl]
  rfl

theorem feedN : ∀ (n : Nat) (c w : BitVec 32), stpN n (c ^^^ w) = (bitsOf w n).foldl bitS c ^^^ (w <<< n)
  | 0, c, w => by simp [stpN, bitsOf]
  | n + 1, c, w => by
    show stpN n (stp (c ^^^ w)) = (bitsOf (w <<< 1) n).foldl bitS (bitS c w.msb) ^^^ (w <<< (n + 1))
    rw [feed1, feedN n, ← BitVec.shiftLeft_add, Nat.add_comm 1 n]

theorem top_gone (x : BitVec 8) : top x <<< 8 = 0#32 := by
  unfold top
  rw [← BitVec.shiftLeft_add]
  simp

/-- An octet, bit by bit. -/
theorem oct_bits (c : BitVec 32) (x : BitVec 8) : octS c x = (bitsOf (top x) 8).foldl bitS c := by
  unfold octS
  rw [feedN, top_gone, BitVec.xor_zero]

def bitsL (l : List (BitVec 8)) : List Bool := l.flatMap fun x => bitsOf (top x) 8

theorem ext_bits (l : List (BitVec 8)) : ∀ c, extS c l = (bitsL l).foldl bitS c := by
  induction l with
  | nil => intro c; rfl
  | cons x l ih =>
    intro c
    show extS (octS c x) l = _
    rw [ih, oct_bits]
    simp [bitsL]

theorem bits_still : ∀ (n : Nat) (c : BitVec 32), (List.replicate n false).foldl bitS c = stpN n c
  | 0, c => rfl
  | n + 1, c => by
    show (List.replicate n false).foldl bitS (bitS c false) = stpN n (stp c)
    rw [bits_still n]
    simp [bitS]

/-- 32 bits in a row, not all of them 0, wherever they lie, are never told as 0. -/
theorem burst (n m : Nat) (t : BitVec 32) (ht : t ≠ 0#32) : (List.replicate n false ++ bitsOf t 32 ++ List.replicate m false).foldl bitS 0#32 ≠ 0#32 := by
  rw [List.foldl_append, List.foldl_append, bits_still m, bits_still n, stpN_zero]
  intro h
  have h2 := stpN_inj m _ h
  have e := feedN 32 0#32 t
  have s : t <<< 32 = 0#32 := by simp
  rw [s, BitVec.xor_zero, h2, BitVec.zero_xor] at e
  exact ht (stpN_inj 32 t e)
end Go.Proofs.Ytibjjhceiohmeaa.SumPlain
