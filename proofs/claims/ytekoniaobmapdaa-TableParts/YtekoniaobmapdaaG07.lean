/- The texts SBridge, SLeaf, SOctets, SGuard, SBare, in this order. -/
import Derived.Test.YtekoniaobmapdaaG06
import Derived.Laws.BitsAllLaws
import Derived.Test.YtekoniaobmapdaaG01
import Derived.Deep.RegionHeld3
import Derived.Deep.OwnRows
import Derived.Deep.AppendLies
import Derived.ChangeKeysEq

/- A uint32 of the program as a bit vector: shifts, exclusive or, the highest bit; octets as numbers; what turning one bit of a text does to the register. -/
namespace Go.Proofs.Ytekoniaobmapdaa.SumPlain

/-- An octet that is a number. -/
def ob (l : List Int) : List (BitVec 8) := l.map (BitVec.ofInt 8)

theorem ob_append (a b : List Int) : ob (a ++ b) = ob a ++ ob b := by simp [ob]

/-- A register, from c on, over octets. -/
def ext (c : BitVec 32) (l : List Int) : BitVec 32 := extS c (ob l)

theorem ext_app (c : BitVec 32) (a b : List Int) : ext c (a ++ b) = ext (ext c a) b := by
  unfold ext
  rw [ob_append, ext_append]

theorem ext_nil (c : BitVec 32) : ext c [] = c := rfl

theorem ext_snoc (c : BitVec 32) (a : List Int) (x : Int) : ext c (a ++ [x]) = octS (ext c a) (BitVec.ofInt 8 x) := by
  rw [ext_app]
  rfl

theorem u32_of (c : BitVec 32) : (c.toNat : Int) < 4294967296 := by
  have := c.isLt
  omega

theorem xor32 (a b : BitVec 32) : bits .xor .u32 (a.toNat : Int) (b.toNat : Int) = ((a ^^^ b).toNat : Int) := by
  rw [u32_xor_nat a.toNat b.toNat a.isLt b.isLt, BitVec.toNat_xor]

theorem shl32 (c : BitVec 32) (n : Nat) : ((c.toNat : Int) * 2 ^ n) % 4294967296 = ((c <<< n).toNat : Int) := by
  rw [BitVec.toNat_shiftLeft, Nat.shiftLeft_eq, Int.natCast_emod, Int.natCast_mul, Int.natCast_pow]
  rfl

theorem shl32_1 (c : BitVec 32) : ((c.toNat : Int) * 2) % 4294967296 = ((c <<< 1).toNat : Int) := shl32 c 1

theorem msb_big (c : BitVec 32) : c.msb = decide (2147483648 ≤ c.toNat) := by
  rw [BitVec.msb_eq_decide]

theorem and_top (c : BitVec 32) : bits .and .u32 (c.toNat : Int) 2147483648 = if c.msb then 2147483648 else 0 := by
  have e := u32_and_nat c.toNat 2147483648 c.isLt (by decide)
  refine e.trans ?_
  have t : (c.toNat &&& 2147483648) = (c &&& 0x80000000#32).toNat := by rw [BitVec.toNat_and]; rfl
  have f : c &&& 0x80000000#32 = if c.msb then 0x80000000#32 else 0#32 := by
    apply BitVec.eq_of_getLsbD_eq
    intro i hi
    have h2 : ∀ i, i < 32 → (0x80000000#32).getLsbD i = decide (i = 31) := by decide
    rw [BitVec.getLsbD_and, h2 i hi]
    by_cases k : i = 31
    · subst k
      rw [← BitVec.msb_eq_getLsbD_last c]
      cases c.msb <;> simp
    · cases c.msb <;> simp [k, h2 i hi]
  rw [t, f]
  cases c.msb <;> rfl

theorem shr_top (c : BitVec 32) : (c.toNat : Int) / 2147483648 = if c.msb then 1 else 0 := by
  have h := c.isLt
  rw [msb_big]
  by_cases k : 2147483648 ≤ c.toNat
  · simp [k]; omega
  · simp [k]; omega

theorem stp_big (c : BitVec 32) (h : c.msb = true) : bits .xor .u32 ((c <<< 1).toNat : Int) 79764919 = ((stp c).toNat : Int) := by
  have e := xor32 (c <<< 1) poly
  have p : (poly.toNat : Int) = 79764919 := by decide
  rw [p] at e
  rw [e]
  unfold stp
  rw [h]
  rfl

theorem stp_small (c : BitVec 32) (h : c.msb = false) : c <<< 1 = stp c := by
  unfold stp
  rw [h]
  simp

theorem stpN_succ (n : Nat) (c : BitVec 32) : stpN (n + 1) c = stp (stpN n c) := stpN_add n 1 c

theorem ob8 (x : Int) (h0 : 0 ≤ x) (h1 : x ≤ 255) : (BitVec.ofInt 8 x).toNat = x.toNat := by
  obtain ⟨n, rfl⟩ := Int.eq_ofNat_of_zero_le h0
  rw [BitVec.ofInt_natCast, BitVec.toNat_ofNat]
  simp
  omega

theorem ob_inj (x y : Int) (h0 : 0 ≤ x) (h1 : x ≤ 255) (k0 : 0 ≤ y) (k1 : y ≤ 255) (h : BitVec.ofInt 8 x = BitVec.ofInt 8 y) : x = y := by
  have := congrArg BitVec.toNat h
  rw [ob8 x h0 h1, ob8 y k0 k1] at this
  omega

theorem obl_inj : ∀ (a b : List Int), (∀ x ∈ a, 0 ≤ x ∧ x ≤ 255) → (∀ x ∈ b, 0 ≤ x ∧ x ≤ 255) → ob a = ob b → a = b
  | [], [], _, _, _ => rfl
  | [], _ :: _, _, _, h => by simp [ob] at h
  | _ :: _, [], _, _, h => by simp [ob] at h
  | x :: a, y :: b, h1, h2, h => by
    simp only [ob, List.map_cons, List.cons.injEq] at h
    have hx := h1 x (by simp)
    have hy := h2 y (by simp)
    rw [ob_inj x y hx.1 hx.2 hy.1 hy.2 h.1, obl_inj a b (fun z hz => h1 z (by simp [hz])) (fun z hz => h2 z (by simp [hz])) h.2]

theorem top_int (x : Int) (h0 : 0 ≤ x) (h1 : x ≤ 255) : ((top (BitVec.ofInt 8 x)).toNat : Int) = x * 16777216 := by
  unfold top
  rw [BitVec.toNat_shiftLeft, BitVec.toNat_setWidth, ob8 x h0 h1, Nat.shiftLeft_eq]
  omega

theorem in_top (c : BitVec 32) (x : Int) (h0 : 0 ≤ x) (h1 : x ≤ 255) : bits .xor .u32 (c.toNat : Int) (x * 16777216) = ((c ^^^ top (BitVec.ofInt 8 x)).toNat : Int) := by
  rw [← top_int x h0 h1, xor32]

/-- A register's octets as numbers, the highest first. -/
def lastL (c : BitVec 32) : List Int := [(c.toNat : Int) / 16777216 % 256, (c.toNat : Int) / 65536 % 256, (c.toNat : Int) / 256 % 256, (c.toNat : Int) % 256]

theorem lastL_len (c : BitVec 32) : (lastL c).length = 4 := rfl

theorem lastL_octet (c : BitVec 32) : ∀ x ∈ lastL c, 0 ≤ x ∧ x ≤ 255 := by
  intro x hx
  simp only [lastL, List.mem_cons, List.mem_nil_iff, or_false] at hx
  rcases hx with rfl | rfl | rfl | rfl <;> omega

theorem hi_int (c : BitVec 32) (x : Int) (h : x = (c.toNat : Int) / 16777216 % 256) : BitVec.ofInt 8 x = hi8 c := by
  subst h
  apply BitVec.eq_of_toNat_eq
  rw [ob8 _ (by omega) (by omega)]
  unfold hi8
  rw [BitVec.extractLsb'_toNat, Nat.shiftRight_eq_div_pow]
  have := c.isLt
  omega

theorem lastL_ob (c : BitVec 32) : ob (lastL c) = [hi8 c, hi8 (c <<< 8), hi8 (c <<< 16), hi8 (c <<< 24)] := by
  have h := c.isLt
  simp only [ob, lastL, List.map_cons, List.map_nil]
  rw [hi_int c _ rfl, hi_int (c <<< 8) ((c.toNat : Int) / 65536 % 256) (by rw [← shl32 c 8]; omega), hi_int (c <<< 16) ((c.toNat : Int) / 256 % 256) (by rw [← shl32 c 16]; omega), hi_int (c <<< 24) ((c.toNat : Int) % 256) (by rw [← shl32 c 24]; omega)]

/-- What is guarded sums up to 0. -/
theorem ext_guard (c : BitVec 32) (l : List Int) : ext c (l ++ lastL (ext c l)) = 0#32 := by
  rw [ext_app]
  show extS _ (ob (lastL (ext c l))) = _
  rw [lastL_ob]
  exact (ext_own _ _).2 rfl

theorem ob_length (l : List Int) : (ob l).length = l.length := by simp [ob]

/-- What comes behind sees only so many bits. -/
theorem ext_behind : ∀ (l : List (BitVec 8)) (c d : BitVec 32), extS (c ^^^ d) l = extS c l ^^^ stpN (8 * l.length) d
  | [], c, d => rfl
  | x :: l, c, d => by
    have e : octS (c ^^^ d) x = octS c x ^^^ stpN 8 d := by
      unfold octS
      rw [← stpN_xor, BitVec.xor_assoc, BitVec.xor_comm d, ← BitVec.xor_assoc]
    show extS (octS (c ^^^ d) x) l = extS (octS c x) l ^^^ _
    rw [e, ext_behind l, ← stpN_add]
    congr 2
    simp only [List.length_cons]
    omega

theorem bit_top (r : Nat) (h : r < 8) : stpN 8 (top (128#8 >>> r)) = stpN (8 - r) 0x80000000#32 := by
  have : r = 0 ∨ r = 1 ∨ r = 2 ∨ r = 3 ∨ r = 4 ∨ r = 5 ∨ r = 6 ∨ r = 7 := by omega
  rcases this with rfl | rfl | rfl | rfl | rfl | rfl | rfl | rfl <;> decide

/-- One bit of a text is turned. -/
theorem ext_turn (c : BitVec 32) (pre post : List (BitVec 8)) (y : BitVec 8) (r : Nat) (h : r < 8) :
    extS c (pre ++ (y ^^^ (128#8 >>> r)) :: post) = extS c (pre ++ y :: post) ^^^ stpN (8 * post.length + (8 - r)) 0x80000000#32 := by
  rw [ext_append, ext_append]
  generalize extS c pre = d
  show extS (octS d (y ^^^ (128#8 >>> r))) post = extS (octS d y) post ^^^ _
  have e : octS d (y ^^^ (128#8 >>> r)) = octS d y ^^^ stpN (8 - r) 0x80000000#32 := by
    have := oct_xor d 0#32 y (128#8 >>> r)
    rw [BitVec.xor_zero] at this
    rw [this]
    congr 1
    unfold octS
    rw [BitVec.zero_xor, bit_top r h]
  rw [e, ext_behind, ← stpN_add, Nat.add_comm]

/-- What k bits of t, turned from bit at on in a text of n bits, do to the register. -/
def turned (t : BitVec 32) (m k : Nat) : BitVec 32 := stpN m (stpN k t ^^^ (t <<< k))

theorem turned_zero (t : BitVec 32) (m : Nat) : turned t m 0 = 0#32 := by
  unfold turned
  simp [stpN, stpN_zero]

theorem turned_step (t : BitVec 32) (m k : Nat) : turned t m (k + 1) = turned t (m + 1) k ^^^ (if (t <<< k).msb then stpN (m + 1) 0x80000000#32 else 0#32) := by
  unfold turned
  have e : stpN (k + 1) t = bitS (stpN k t ^^^ (t <<< k)) (t <<< k).msb ^^^ (t <<< (k + 1)) := by
    rw [stpN_succ]
    have f := feed1 (stpN k t ^^^ (t <<< k)) (t <<< k)
    rw [BitVec.xor_assoc, BitVec.xor_self, BitVec.xor_zero] at f
    rw [f, ← BitVec.shiftLeft_add]
  rw [e, BitVec.xor_assoc, BitVec.xor_self, BitVec.xor_zero]
  unfold bitS
  have s : ∀ x, stpN (m + 1) x = stpN m (stp x) := fun x => rfl
  rw [s, stp_xor, stpN_xor]
  congr 1
  cases (t <<< k).msb
  · simp [stp_zero, stpN_zero]
  · rfl

theorem turned_all (t : BitVec 32) (m : Nat) (ht : t ≠ 0#32) : turned t m 32 ≠ 0#32 := by
  unfold turned
  intro h
  have h2 := stpN_inj m _ h
  have s : t <<< 32 = 0#32 := by simp
  rw [s, BitVec.xor_zero] at h2
  exact ht (stpN_inj 32 t h2)

theorem xor8 (x y : Int) (h0 : 0 ≤ x) (h1 : x ≤ 255) (k0 : 0 ≤ y) (k1 : y ≤ 255) : BitVec.ofInt 8 (bits .xor .u8 x y) = BitVec.ofInt 8 x ^^^ BitVec.ofInt 8 y ∧ 0 ≤ bits .xor .u8 x y ∧ bits .xor .u8 x y ≤ 255 := by
  have e := u8_xor x y h0 (by omega) k0 (by omega)
  have hx : x.toNat ^^^ y.toNat < 2 ^ 8 := Nat.xor_lt_two_pow (by omega) (by omega)
  refine ⟨?_, by omega, by omega⟩
  apply BitVec.eq_of_toNat_eq
  rw [BitVec.toNat_xor, ob8 x h0 h1, ob8 y k0 k1, e, ob8 _ (by omega) (by omega)]
  simp

/-- Octet by octet. -/
def xorL (a b : List Int) : List Int := List.zipWith (fun x y => bits .xor .u8 x y) a b

theorem ob_xorL : ∀ (a b : List Int), (∀ x ∈ a, 0 ≤ x ∧ x ≤ 255) → (∀ x ∈ b, 0 ≤ x ∧ x ≤ 255) → ob (xorL a b) = List.zipWith (· ^^^ ·) (ob a) (ob b) ∧ ∀ x ∈ xorL a b, 0 ≤ x ∧ x ≤ 255
  | [], _, _, _ => by simp [xorL, ob]
  | _ :: _, [], _, _ => by simp [xorL, ob]
  | x :: a, y :: b, h1, h2 => by
    have hx := h1 x (by simp)
    have hy := h2 y (by simp)
    obtain ⟨e, f⟩ := ob_xorL a b (fun z hz => h1 z (by simp [hz])) (fun z hz => h2 z (by simp [hz]))
    have g := xor8 x y hx.1 hx.2 hy.1 hy.2
    constructor
    · simp only [xorL, ob, List.zipWith_cons_cons, List.map_cons, g.1]
      congr 1
    · intro z hz
      simp only [xorL, List.zipWith_cons_cons, List.mem_cons] at hz
      rcases hz with rfl | hz
      · exact g.2
      · exact f z hz

theorem ext_xorL (a b : List Int) (ha : ∀ x ∈ a, 0 ≤ x ∧ x ≤ 255) (hb : ∀ x ∈ b, 0 ≤ x ∧ x ≤ 255) (h : a.length = b.length) (c d : BitVec 32) : ext (c ^^^ d) (xorL a b) = ext c a ^^^ ext d b := by
  unfold ext
  rw [(ob_xorL a b ha hb).1, ext_xor _ _ _ _ (by rw [ob_length, ob_length, h])]

def ones : BitVec 32 := 0xffffffff#32

/-- Three texts of one length. -/
theorem ext_three (a b c : List Int) (ha : ∀ x ∈ a, 0 ≤ x ∧ x ≤ 255) (hb : ∀ x ∈ b, 0 ≤ x ∧ x ≤ 255) (hc : ∀ x ∈ c, 0 ≤ x ∧ x ≤ 255) (h : a.length = b.length) (k : a.length = c.length) :
    ext ones (xorL (xorL a b) c) = ext ones a ^^^ ext ones b ^^^ ext ones c := by
  have e : ones = (ones ^^^ ones) ^^^ ones := by decide
  conv => lhs; rw [e]
  rw [ext_xorL _ _ (ob_xorL a b ha hb).2 hc (by simp [xorL]; omega), ext_xorL a b ha hb h]

/-- What Bare says: the error, and what is answered. -/
def bareOf (l : List Int) : List Int × Int := if l.length < 4 then ([], 8) else if l.drop (l.length - 4) = lastL (ext ones (l.take (l.length - 4))) then (l.take (l.length - 4), 0) else ([], 21)

theorem bare_guard (l : List Int) : bareOf (l ++ lastL (ext ones l)) = (l, 0) := by
  unfold bareOf
  have e : (l ++ lastL (ext ones l)).length = l.length + 4 := by simp [lastL_len]
  rw [e, if_neg (by omega), Nat.add_sub_cancel]
  simp

theorem bare_not (l : List Int) (h4 : 4 ≤ l.length) (h : ext ones l ≠ 0#32) : bareOf l = ([], 21) := by
  unfold bareOf
  rw [if_neg (by omega)]
  by_cases c : l.drop (l.length - 4) = lastL (ext ones (l.take (l.length - 4)))
  · exfalso
    apply h
    have := ext_guard ones (l.take (l.length - 4))
    rw [← c, List.take_append_drop] at this
    exact this
  · rw [if_neg c]

/-- One octet of a text, written over by itself with one bit turned. -/
theorem ext_set (c : BitVec 32) (l : List Int) (p : Nat) (hl : ∀ x ∈ l, 0 ≤ x ∧ x ≤ 255) (h : p < 8 * l.length) (m : Int) (hm : m = ((128#8 >>> (p % 8)).toNat : Int)) :
    ext c (l.set (p / 8) (bits .xor .u8 (l.getD (p / 8) 0) m)) = ext c l ^^^ stpN (8 * l.length - p) 0x80000000#32 ∧ ∀ x ∈ l.set (p / 8) (bits .xor .u8 (l.getD (p / 8) 0) m), 0 ≤ x ∧ x ≤ 255 := by
  have hp : p / 8 < l.length := by omega
  have hy := hl (l.getD (p / 8) 0) (by simp [List.getD, hp])
  have hb := (128#8 >>> (p % 8)).isLt
  have hx := xor8 (l.getD (p / 8) 0) m hy.1 hy.2 (by omega) (by omega)
  have hmb : BitVec.ofInt 8 m = 128#8 >>> (p % 8) := by
    apply BitVec.eq_of_toNat_eq
    rw [ob8 m (by omega) (by omega), hm]
    rfl
  constructor
  · have e1 : l = l.take (p / 8) ++ l.getD (p / 8) 0 :: l.drop (p / 8 + 1) := by
      have : l.getD (p / 8) 0 = l[p / 8] := by simp [List.getD, hp]
      rw [this, List.getElem_cons_drop, List.take_append_drop]
    have e2 : l.set (p / 8) (bits .xor .u8 (l.getD (p / 8) 0) m) = l.take (p / 8) ++ bits .xor .u8 (l.getD (p / 8) 0) m :: l.drop (p / 8 + 1) := by
      rw [List.set_eq_take_append_cons_drop, if_pos hp]
    rw [e2]
    conv => rhs; rw [e1]
    unfold ext
    simp only [ob, List.map_append, List.map_cons]
    rw [hx.1, hmb, ext_turn c _ _ _ (p % 8) (by omega)]
    congr 2
    simp only [List.length_map, List.length_drop, List.length_append, List.length_cons, List.length_take]
    omega
  · intro x hxm
    rcases List.mem_or_eq_of_mem_set hxm with h1 | h1
    · exact hl x h1
    · rw [h1]; exact hx.2

end Go.Proofs.Ytekoniaobmapdaa.SumPlain

/- The leaves: octets copied, octets held against each other, the register's eight shifts, Extend and Sum of the program and of the document. -/
namespace Go.Proofs.Ytekoniaobmapdaa
open Go.RowKit SumPlain
set_option linter.unusedVariables false

theorem shl1 (r : BitVec 32) : (r.toNat : Int) * (2 : Int) % (4294967296 : Int) = ((r <<< 1).toNat : Int) := shl32 r 1

theorem shl1_small (r : BitVec 32) (h : r.msb = false) : (r.toNat : Int) * (2 : Int) = ((stp r).toNat : Int) := by
  rw [← stp_small r h, ← shl1]
  have e := msb_big r
  rw [h] at e
  have := of_decide_eq_false e.symm
  omega

theorem ret_u32 {a b : Int} (h : a = b) : Value.int .u32 a = .int .u32 b := by rw [h]

set_option maxHeartbeats 400000 in
theorem shifted_any (c : BitVec 32) (w : World) :
    Calls Try.prog 76 #[.int .u32 (c.toNat : Int)] w fun e w' => e = .returned (.int .u32 ((stpN 8 c).toNat : Int)) ∧ w' = w := by
  go_enter Try.func76, Try.ntmps76
  go_wp2
  go_loopw [0, 4] (fun s i wr => ∃ k : Nat, k ≤ 8 ∧ i = .int .i64 k ∧ s = .int .u32 ((stpN k c).toNat : Int) ∧ wr = w) (fun _ i _ => 8 - (intOf i).toNat)
  case atStart => exact ⟨0, Nat.zero_le _, rfl, rfl, rfl⟩
  case round =>
    obtain ⟨k, hk, rfl, rfl, rfl⟩ := hrel
    by_cases hlt : k < 8
    · have hlt' : (k : Int) < 8 := by omega
      have HS : Hid (stpN (k + 1) c = stp (stpN k c)) := stpN_succ k c
      generalize stpN k c = r at *
      have hu := u32_of r
      have ha := and_top r
      cases hm : r.msb
      · rw [hm] at ha
        simp only [Bool.false_eq_true, if_false] at ha
        go_wp2
        exact ⟨⟨k + 1, by omega, by go_num, ret_u32 (by rw [HS.out, shl1, stp_small r hm]), trivial⟩, by simp [intOf]; omega⟩
      · rw [hm] at ha
        simp only [if_true] at ha
        go_wp2
        exact ⟨⟨k + 1, by omega, by go_num, ret_u32 (by rw [HS.out, shl1, stp_big r hm]), trivial⟩, by simp [intOf]; omega⟩
    · have hlt' : ¬ (k : Int) < 8 := by omega
      obtain rfl : k = 8 := by omega
      go_wp2
      go_ret
      exact ⟨rfl, rfl⟩

theorem Octs.at {w : World} {v : Value} {l : List Int} (h : Octs w v l) (k : Nat) (hk : k < l.length) :
    ∃ b off cap, v = .slice (some ⟨b, off, none⟩) l.length cap ∧ l.length ≤ cap ∧ cap ≤ maxLen ∧ w.cell? ⟨b, off + k, none⟩ = some (.int .u8 (l.getD k 0)) := by
  obtain ⟨_, h⟩ := h
  rcases h with ⟨rfl, _⟩ | ⟨hn, b, off, cap, rfl, hc, hm, hj⟩
  · simp at hk
  · exact ⟨b, off, cap, rfl, hc, hm, hj k _ (by simp [List.getD, hk])⟩

theorem Octs.len {w : World} {v : Value} {l : List Int} (h : Octs w v l) : ∃ a cap, v = .slice a l.length cap ∧ l.length ≤ cap ∧ l.length ≤ maxLen := by
  obtain ⟨_, h⟩ := h
  rcases h with ⟨rfl, a, cap, rfl, _⟩ | ⟨hn, b, off, cap, rfl, hc, hm, hj⟩
  · exact ⟨a, cap, rfl, Nat.zero_le _, Nat.zero_le _⟩
  · exact ⟨_, cap, rfl, hc, by omega⟩

theorem Octs.oct {w : World} {v : Value} {l : List Int} (h : Octs w v l) (k : Nat) (hk : k < l.length) : 0 ≤ l.getD k 0 ∧ l.getD k 0 ≤ 255 := h.1 _ (by simp [List.getD, hk])

set_option maxHeartbeats 400000 in
theorem extend_any (c : BitVec 32) (l : List Int) (v : Value) (w : World) (hv : Octs w v l) :
    Calls Try.prog 65 #[.int .u32 (c.toNat : Int), v] w fun e w' => e = .returned (.int .u32 ((ext c l).toNat : Int)) ∧ w' = w := by
  have HV : Hid (Octs w v l) := hv
  obtain ⟨a, cap, rfl, hcap, hmax⟩ := hv.len
  clear hv
  unfold maxLen at hmax
  go_enter Try.func65, Try.ntmps65
  go_wp2
  go_loopw [0, 9] (fun s i wr => ∃ k : Nat, k ≤ l.length ∧ i = .int .i64 k ∧ s = .int .u32 ((ext c (l.take k)).toNat : Int) ∧ wr = w) (fun _ i _ => l.length - (intOf i).toNat)
  case atStart => exact ⟨0, Nat.zero_le _, rfl, rfl, rfl⟩
  case round =>
    obtain ⟨k, hk, rfl, rfl, rfl⟩ := hrel
    by_cases hlt : k < l.length
    · have hlt' : (k : Int) < (l.length : Int) := by omega
      have HS : Hid (ext c (l.take (k + 1)) = octS (ext c (l.take k)) (BitVec.ofInt 8 (l.getD k 0))) := by unfold Hid; rw [take_snoc l k 0 hlt, ext_snoc]
      obtain ⟨b, off, cap', e, _, _, hcell⟩ := HV.out.at k hlt
      simp at e
      obtain ⟨rfl, rfl⟩ := e
      obtain ⟨x0, x1⟩ := HV.out.oct k hlt
      generalize ext c (l.take k) = r at *
      generalize l.getD k 0 = x at *
      have hu := u32_of r
      have HT : Hid (bits .xor .u32 (r.toNat : Int) (x * 16777216) = ((r ^^^ top (BitVec.ofInt 8 x)).toNat : Int)) := in_top r x x0 x1
      go_wp2_with fail
      rw [HT.out]
      refine (shifted_any _ _).mono ?_
      rintro e w1 ⟨rfl, rfl⟩
      go_wp2
      exact ⟨⟨k + 1, by omega, by go_num, ret_u32 (by rw [HS.out]; rfl), trivial⟩, by simp [intOf]; omega⟩
    · have hlt' : ¬ (k : Int) < (l.length : Int) := by omega
      obtain rfl : k = l.length := by omega
      rw [List.take_length]
      go_wp2
      go_ret
      exact ⟨rfl, rfl⟩

theorem sum_any (l : List Int) (v : Value) (w : World) (hv : Octs w v l) :
    Calls Try.prog 55 #[v] w fun e w' => e = .returned (.int .u32 ((ext ones l).toNat : Int)) ∧ w' = w := by
  have HV : Hid (Octs w v l) := hv
  clear hv
  go_enter Try.func55, Try.ntmps55
  go_wp2_with fail
  refine (extend_any ones l _ _ HV.out).mono ?_
  rintro e w1 ⟨rfl, rfl⟩
  go_wp2
  go_ret
  exact ⟨rfl, rfl⟩

set_option maxHeartbeats 400000 in
theorem copy_any (l : List Int) (v : Value) (w : World) (hv : Octs w v l) (hl : l.length ≤ 140737488355328) :
    Calls Try.prog 30 #[v] w fun e w' => ∃ v', e = .returned v' ∧ OwnB w' w.heap.size v' l ∧ Below w.heap.size w w' := by
  have HV : Hid (Octs w v l) := hv
  clear hv
  go_enter Try.func30, Try.ntmps30
  go_wp2_with (at_builtin; refine wpList_append_octs _ rfl _ _ rfl w.heap.size _ [] rfl (World.ownsRow_nil _ _ _ _) _ l rfl HV.out ?c1 (Nat.le_refl _) ?_)
  case c1 => simpa using hl
  intro v' w' hown hg
  go_wp2
  go_ret
  refine ⟨_, rfl, hown, ?_⟩
  exact (Below.refl _ _).grown hg (Nat.le_refl _) (by simp [Value.ownBlock])

theorem same_any (l1 l2 : List Int) (v1 v2 : Value) (w : World) (h1 : Octs w v1 l1) (h2 : Octs w v2 l2) :
    Calls Try.prog 13 #[v1, v2] w fun e w' => e = .returned (.bool (decide (l1 = l2))) ∧ w' = w := by
  have k1 := run_convert_octs l1 v1 w h1
  have k2 := run_convert_octs l2 v2 w h2
  have H : Hid (((strOfNums l1).toList == (strOfNums l2).toList) = decide (l1 = l2)) := str_eq l1 l2 h1.1 h2.1
  go_enter Try.func13, Try.ntmps13
  go_wp2
  go_ret
  exact ⟨ret_bool H.out, rfl⟩

end Go.Proofs.Ytekoniaobmapdaa

/- A register's octets, laid into an array; append of octets at a step of a statement whose order is drawn. -/
namespace Go.Proofs.Ytekoniaobmapdaa
open Go.RowKit SumPlain
set_option linter.unusedVariables false

theorem lastL_four (c : BitVec 32) : ∃ x0 x1 x2 x3 : Int, lastL c = [x0, x1, x2, x3] ∧ (0 ≤ x0 ∧ x0 ≤ 255) ∧ (0 ≤ x1 ∧ x1 ≤ 255) ∧ (0 ≤ x2 ∧ x2 ≤ 255) ∧ (0 ≤ x3 ∧ x3 ≤ 255) :=
  ⟨_, _, _, _, rfl, by omega, by omega, by omega, by omega⟩

set_option maxHeartbeats 1000000 in
theorem octets_any (c : BitVec 32) (x0 x1 x2 x3 : Int) (h : lastL c = [x0, x1, x2, x3]) (w : World) :
    Calls Try.prog 54 #[.int .u32 (c.toNat : Int)] w fun e w' => e = .returned (.agg #[.int .u8 x0, .int .u8 x1, .int .u8 x2, .int .u8 x3]) ∧
      w' = (w.alloc (.cells #[.int .u8 x0, .int .u8 x1, .int .u8 x2, .int .u8 x3] 99)).alloc (.cells #[.int .u8 x0, .int .u8 x1, .int .u8 x2, .int .u8 x3] 99) := by
  have hu := u32_of c
  simp only [lastL, List.cons.injEq, and_true] at h
  obtain ⟨h0, h1, h2, h3⟩ := h
  have e0 : (c.toNat : Int) / 16777216 = x0 := by omega
  clear h0
  have H0 : Hid ((c.toNat : Int) / 16777216 = x0) := e0
  have H1 : Hid ((c.toNat : Int) / 65536 % 256 = x1) := h1
  have H2 : Hid ((c.toNat : Int) / 256 % 256 = x2) := h2
  have H3 : Hid ((c.toNat : Int) % 256 = x3) := h3
  clear e0 h1 h2 h3
  go_enter Try.func54, Try.ntmps54
  go_wp2
  refine wp_loop_rounds 5 ?_
  rw [rounds_succ]
  go_wp2
  rw [rounds_succ]
  go_wp2
  rw [rounds_succ]
  go_wp2
  rw [rounds_succ]
  go_wp2
  rw [rounds_succ]
  go_wp2
  go_returns
  rw [H0.out, H1.out, H2.out, H3.out]
  exact ⟨rfl, rfl⟩

theorem wp_append_octs (w : World) {o : Oper} {a : Act} {K : Act → World → Prop} {Q : Exit → Act → World → Prop} (s x : Operand)
    (ho : o.op = .call { callee := .builtin .append, args := #[s, x], argTypes := #[23, 23] }) (base : Nat) (v : Value) (l0 : List Int) (hs : a.eval s = v) (hown : OwnB w base v l0)
    (vx : Value) (lx : List Int) (hx : a.eval x = vx) (hO : Octs w vx lx) (hsz : l0.length + lx.length ≤ 140737488355328) (hbase : base ≤ w.heap.size)
    (h : ∀ v' w', OwnB w' base v' (l0 ++ lx) → w.grownBy w' v.ownBlock → K (a.put o.dst v') w') : o.wp Try.prog a w K Q := by
  obtain ⟨i0, hi, hz0, hz1, hz2⟩ := info_some Try.info5
  obtain ⟨hoct, hO⟩ := hO
  have fin : ∀ v' w', w'.ownsRow base 5 1 v' (l0.length + lx.length) (l0.map (Value.int .u8) ++ lx.map (Value.int .u8)) → w.grownBy w' v.ownBlock → K (a.put o.dst v') w' := by
    intro v' w' h1 h2
    refine h v' w' ?_ h2
    unfold OwnB
    rw [List.length_append, List.map_append]
    exact h1
  rcases hO with ⟨rfl, ax, cap, rfl, hn⟩ | ⟨hne, b, off, cap, rfl, hcap, hm, hc⟩
  · cases ax with
    | none =>
      obtain rfl := hn rfl
      have hrun := run_append_owned_none (P := Try.prog) (w := w) base 23 o.type 5 i0 1 Try.underlying23 hi v l0.length (l0.map (Value.int .u8)) hown
      unfold Oper.wp
      simp [execOp, ho, resolve, invoke, builtin, hs, hx, hrun, Result.andThen]
      refine fin v w ?_ (grown_refl w _)
      unfold OwnB at hown
      simpa using hown
    | some ad =>
      refine wp_append_own w s x 23 ho base 5 i0 (.int .u8 0) 1 1 Try.underlying23 hi hz0 hz1 hz2 rfl (by decide) v l0.length _ hs hown ad 0 cap [] hx rfl (fun j u hj => by simp at hj) (fun u hu => by cases hu) ?_ ?_ hbase ?_
      · simp only [List.length_nil] at hsz; unfold maxLen; omega
      · simp only [List.length_nil] at hsz; omega
      · intro v' w' h1 h2 _
        exact fin v' w' (by simpa using h1) h2
  · refine wp_append_own w s x 23 ho base 5 i0 (.int .u8 0) 1 1 Try.underlying23 hi hz0 hz1 hz2 rfl (by decide) v l0.length _ hs hown ⟨b, off, none⟩ lx.length cap (lx.map (Value.int .u8)) hx (by simp) ?_ (one_u8 lx) ?_ ?_ hbase ?_
    · intro j u hj
      rw [List.getElem?_map] at hj
      cases hx : lx[j]? with
      | none => rw [hx] at hj; cases hj
      | some y =>
        rw [hx] at hj
        simp at hj
        subst hj
        rw [Addr.add_lit]
        exact hc j y hx
    · unfold maxLen; omega
    · omega
    · intro v' w' h1 h2 _
      exact fin v' w' h1 h2

/-- At an operation that stands behind a test. -/
theorem wpList_append_octs_g (w : World) {ops : Array Oper} {rest : List Oper} {o : Oper} {a : Act} {Q : Exit → Act → World → Prop} (hgd : Region.wanted o (yielded ops a.tmps) = true) (s x : Operand)
    (ho : o.op = .call { callee := .builtin .append, args := #[s, x], argTypes := #[23, 23] }) (base : Nat) (v : Value) (l0 : List Int) (hs : a.eval s = v) (hown : OwnB w base v l0)
    (vx : Value) (lx : List Int) (hx : a.eval x = vx) (hO : Octs w vx lx) (hsz : l0.length + lx.length ≤ 140737488355328) (hbase : base ≤ w.heap.size)
    (h : ∀ v' w', OwnB w' base v' (l0 ++ lx) → w.grownBy w' v.ownBlock → wpList Try.prog ops Q rest (a.put o.dst v') w') : wpList Try.prog ops Q (o :: rest) a w := by
  unfold wpList
  rw [if_pos hgd]
  exact .inl (wp_append_octs w s x ho base v l0 hs hown vx lx hx hO hsz hbase h)

/-- At a step of a statement whose order is drawn. -/
theorem step_append_octs (w : World) {ops : Array Oper} {o : Oper} {a : Act} {K : Act → World → Prop} {Q : Exit → Act → World → Prop} {E : Prop} (hgd : o.guard = none) (s x : Operand)
    (ho : o.op = .call { callee := .builtin .append, args := #[s, x], argTypes := #[23, 23] }) (base : Nat) (v : Value) (l0 : List Int) (hs : a.eval s = v) (hown : OwnB w base v l0)
    (vx : Value) (lx : List Int) (hx : a.eval x = vx) (hO : Octs w vx lx) (hsz : l0.length + lx.length ≤ 140737488355328) (hbase : base ≤ w.heap.size)
    (h : ∀ v' w', OwnB w' base v' (l0 ++ lx) → w.grownBy w' v.ownBlock → K (a.put o.dst v') w') :
    if Region.wanted o (yielded ops a.tmps) = true then Oper.wp Try.prog o a w K Q else E := by
  have hw : Region.wanted o (yielded ops a.tmps) = true := by simp [Region.wanted, hgd]
  rw [if_pos hw]
  exact wp_append_octs w s x ho base v l0 hs hown vx lx hx hO hsz hbase h
end Go.Proofs.Ytekoniaobmapdaa

/- Guard of the program: the octets and, behind them, their sum's four. -/
namespace Go.Proofs.Ytekoniaobmapdaa
open Go.RowKit SumPlain
set_option linter.unusedVariables false

/-- What is guarded. -/
def guardOf (l : List Int) : List Int := l ++ lastL (ext ones l)

theorem guard_len (l : List Int) : (guardOf l).length = l.length + 4 := by simp [guardOf, lastL_len]

theorem guard_octet (l : List Int) (h : ∀ x ∈ l, 0 ≤ x ∧ x ≤ 255) : ∀ x ∈ guardOf l, 0 ≤ x ∧ x ≤ 255 := by
  intro x hx
  rcases List.mem_append.1 hx with h1 | h1
  · exact h x h1
  · exact lastL_octet _ x h1

set_option maxHeartbeats 1000000 in
theorem guard_any (l : List Int) (v : Value) (w : World) (hv : Octs w v l) (hl : l.length ≤ 140737488351232) :
    Calls Try.prog 51 #[v] w fun e w' => ∃ v', e = .returned v' ∧ OwnB w' w.heap.size v' (guardOf l) ∧ Below w.heap.size w w' := by
  have HV : Hid (Octs w v l) := hv
  obtain ⟨a, cap, rfl, hcap, hmax⟩ := hv.len
  clear hv hmax hcap
  obtain ⟨x0, x1, x2, x3, hx, b0, b1, b2, b3⟩ := lastL_four (ext ones l)
  have HG : Hid (guardOf l = l ++ [x0, x1, x2, x3]) := by unfold Hid guardOf; rw [hx]
  have hmk : ∀ w : World, (Instr.makeSlice 23 (.int .i64 0) (.int .i64 ((l.length : Int) + 4))).run Try.prog w = .ok (.slice (some ⟨w.heap.size, 0, none⟩) 0 (l.length + 4)) (w.alloc (.cells (madeCells #[.int .u8 0] (l.length + 4)) 5)) := by
    intro w
    obtain ⟨i0, hi, hz0, hz1, hz2⟩ := info_some Try.info5
    have := run_make (P := Try.prog) w 23 5 i0 (.int .u8 0) Try.underlying23 hi hz0 .i64 .i64 0 ((l.length : Int) + 4) (Int.le_refl _) (by omega) (by rw [hz2]; omega) (by omega)
    rw [hz1] at this
    have e : ((l.length : Int) + 4).toNat = l.length + 4 := by omega
    rw [e] at this
    simpa [Value.cells] using this
  have HX : Hid (lastL (ext ones l) = [x0, x1, x2, x3]) := hx
  clear hx
  have HV2 : Hid (∀ o1 o2 o3 o4, Octs ((((w.alloc o1).alloc o2).alloc o3).alloc o4) (.slice a l.length cap) l) := fun o1 o2 o3 o4 => HV.out.up (up_al (up_al (up_al (up_al (Below.refl _ _) o1) o2) o3) o4)
  have HOwn : Hid (∀ o1 o2 o3, OwnB ((((w.alloc o1).alloc o2).alloc o3).alloc (.cells (madeCells #[.int .u8 0] (l.length + 4)) 5)) w.heap.size (.slice (some ⟨w.heap.size + 1 + 1 + 1, 0, none⟩) 0 (l.length + 4)) []) := by
    intro o1 o2 o3
    have := World.ownsRow_made (base := w.heap.size) (e := 5) (size := 1) (((w.alloc o1).alloc o2).alloc o3) (madeCells #[.int .u8 0] (l.length + 4)) (l.length + 4) (by simp; omega) (by unfold maxLen; omega) (by rw [size_madeCells]; omega)
    unfold OwnB
    simpa using this
  have HLast : Hid (∀ o1 o2 o4 wx, ((((w.alloc o1).alloc o2).alloc (.cells #[.int .u8 x0, .int .u8 x1, .int .u8 x2, .int .u8 x3] 99)).alloc o4).drew.grownBy wx (some (w.heap.size + 1 + 1 + 1)) → Octs wx (.slice (some ⟨w.heap.size + 1 + 1, 0, none⟩) 4 4) [x0, x1, x2, x3]) := by
    intro o1 o2 o4 wx hg
    refine ⟨by simp [b0, b1, b2, b3], .inr ⟨by simp, w.heap.size + 1 + 1, 0, 4, rfl, by simp, by unfold maxLen; omega, fun j x hj => ?_⟩⟩
    rw [hg.cell_far ⟨w.heap.size + 1 + 1, 0 + j, none⟩ (by simp) (by simp)]
    have e := cells_new ((w.alloc o1).alloc o2) [.int .u8 x0, .int .u8 x1, .int .u8 x2, .int .u8 x3] [] 99 j (.int .u8 x) (by
      have : ([.int .u8 x0, .int .u8 x1, .int .u8 x2, .int .u8 x3] : List Value) = [x0, x1, x2, x3].map (Value.int .u8) := rfl
      rw [this, List.getElem?_map, hj]
      rfl)
    rw [Addr.add_lit] at e
    have hb := up_al (Below.refl (((w.alloc o1).alloc o2).alloc (.cells #[.int .u8 x0, .int .u8 x1, .int .u8 x2, .int .u8 x3] 99)).heap.size _) o4
    have hc := hb.cell (p := ⟨w.heap.size + 1 + 1, 0 + j, none⟩) (by simp)
    exact hc.trans (by simpa using e)
  go_enter Try.func51, Try.ntmps51
  go_wp2_with fail
  refine (sum_any l _ _ HV.out).mono ?_
  rintro e w1 ⟨rfl, rfl⟩
  go_wp2_with fail
  refine (octets_any _ x0 x1 x2 x3 HX.out _).mono ?_
  rintro e w2 ⟨rfl, rfl⟩
  go_wp2_with fail
  go_region_held3 (fun _ => True) (trivial) (first
    | (refine step_append_octs _ (by rfl) _ _ (by rfl) w1.heap.size (.slice (some ⟨w1.heap.size + 1 + 1 + 1, 0, none⟩) 0 (l.length + 4)) [] (by rfl) (HOwn.out _ _ _) (.slice a l.length cap) l (by rfl) (HV2.out _ _ _ _) (by simp; omega) (by simp; omega) ?_; intro v3 w3 hown3 hg3)
    | (refine step_append_octs _ (by rfl) _ _ (by rfl) w1.heap.size v3 ([] ++ l) (by rfl) hown3 (.slice (some ⟨w1.heap.size + 1 + 1, 0, none⟩) 4 4) [x0, x1, x2, x3] (by rfl) (HLast.out _ _ _ _ hg3) (by simp; omega) (by have := hg3.size; simp at this; omega) ?_; intro v4 w4 hown4 hg4))
  go_wp2
  go_ret
  refine ⟨_, rfl, ?_, ?_⟩
  · rw [HG.out]
    exact hown4
  · have h4 := up_dr (up_al (up_al (up_al (up_al (Below.refl w1.heap.size w1) (.cells #[.int .u8 x0, .int .u8 x1, .int .u8 x2, .int .u8 x3] 99)) (.cells #[.int .u8 x0, .int .u8 x1, .int .u8 x2, .int .u8 x3] 99)) (.cells #[.int .u8 x0, .int .u8 x1, .int .u8 x2, .int .u8 x3] 99)) (.cells (madeCells #[.int .u8 0] (l.length + 4)) 5))
    refine (h4.grown hg3 h4.size ?_).grown hg4 (Nat.le_trans h4.size hg3.size) (fun k hk => (hown3.lt k hk).1)
    intro k hk
    simp [Value.ownBlock] at hk
    omega
end Go.Proofs.Ytekoniaobmapdaa

/- Bare of the program: what was guarded, where the sum fits. -/
namespace Go.Proofs.Ytekoniaobmapdaa
open Go.RowKit SumPlain
set_option linter.unusedVariables false

theorem Octs.front {w : World} {b off cap n : Nat} {l p q : List Int} (h : Octs w (.slice (some ⟨b, off, none⟩) n cap) l) (hl : l = p ++ q) (hn : n = l.length) : Octs w (.slice (some ⟨b, off, none⟩) p.length cap) p := by
  subst hl
  subst hn
  obtain ⟨hx, h⟩ := h
  refine ⟨fun x hp => hx x (List.mem_append_left _ hp), ?_⟩
  by_cases c : p = []
  · subst c
    exact .inl ⟨rfl, _, _, rfl, fun h => by cases h⟩
  · rcases h with ⟨h0, _⟩ | ⟨hn, b', off', cap', e, hc, hm, hj⟩
    · simp at h0; exact absurd h0.1 c
    · simp at e
      obtain ⟨⟨rfl, rfl⟩, rfl⟩ := e
      rw [List.length_append] at hc
      refine .inr ⟨c, b, off, cap, rfl, by omega, hm, fun j x hjx => hj j x ?_⟩
      rw [List.getElem?_append_left (List.getElem?_eq_some_iff.1 hjx).1]
      exact hjx

theorem part_u8 (w : World) (xs : Array Value) (j : Nat) (v : Value) (h : xs[j]? = some v) : (part 5 xs j).run Try.prog w = .ok v w := run_part_plain w (by kernel_rfl) h

theorem cells_u8 : Try.prog.cellsOf 5 = 1 := by kernel_rfl

/-- Two arrays of four octets, held against each other. -/
theorem eq_four (y0 y1 y2 y3 x0 x1 x2 x3 : Int) (w : World) :
    (Op.equalIn 10000 99 (.agg #[.int .u8 y0, .int .u8 y1, .int .u8 y2, .int .u8 y3]) (.agg #[.int .u8 x0, .int .u8 x1, .int .u8 x2, .int .u8 x3])).run Try.prog w = .ok (decide ([y0, y1, y2, y3] = [x0, x1, x2, x3])) w := by
  obtain ⟨i0, hi, _⟩ := info_some Try.info5
  have e := run_equalIn_array w 9999 #[.int .u8 y0, .int .u8 y1, .int .u8 y2, .int .u8 y3] #[.int .u8 x0, .int .u8 x1, .int .u8 x2, .int .u8 x3] Try.underlying99 hi
  refine e.trans ?_
  clear e
  rw [cells_u8]
  have r : List.range 4 = [0, 1, 2, 3] := rfl
  have q : ∀ (a b : Int), (Op.equalIn 9999 5 (.int .u8 a) (.int .u8 b)).run Try.prog w = .ok (a == b) w := fun a b => run_equalIn_int w 9998 5 .u8 .u8 a b Try.underlying5
  rw [r]
  have p0 := part_u8 w #[.int .u8 y0, .int .u8 y1, .int .u8 y2, .int .u8 y3] 0 (.int .u8 y0) rfl
  have p1 := part_u8 w #[.int .u8 y0, .int .u8 y1, .int .u8 y2, .int .u8 y3] 1 (.int .u8 y1) rfl
  have p2 := part_u8 w #[.int .u8 y0, .int .u8 y1, .int .u8 y2, .int .u8 y3] 2 (.int .u8 y2) rfl
  have p3 := part_u8 w #[.int .u8 y0, .int .u8 y1, .int .u8 y2, .int .u8 y3] 3 (.int .u8 y3) rfl
  have q0 := part_u8 w #[.int .u8 x0, .int .u8 x1, .int .u8 x2, .int .u8 x3] 0 (.int .u8 x0) rfl
  have q1 := part_u8 w #[.int .u8 x0, .int .u8 x1, .int .u8 x2, .int .u8 x3] 1 (.int .u8 x1) rfl
  have q2 := part_u8 w #[.int .u8 x0, .int .u8 x1, .int .u8 x2, .int .u8 x3] 2 (.int .u8 x2) rfl
  have q3 := part_u8 w #[.int .u8 x0, .int .u8 x1, .int .u8 x2, .int .u8 x3] 3 (.int .u8 x3) rfl
  generalize (#[.int .u8 y0, .int .u8 y1, .int .u8 y2, .int .u8 y3] : Array Value) = Y at *
  generalize (#[.int .u8 x0, .int .u8 x1, .int .u8 x2, .int .u8 x3] : Array Value) = X at *
  simp only [Op.eqItems, Sem.run_bind, Nat.mul_one, p0, q0, q, Result.andThen_ok]
  by_cases c0 : y0 = x0
  · by_cases c1 : y1 = x1
    · by_cases c2 : y2 = x2
      · by_cases c3 : y3 = x3
        · simp [p1, p2, p3, q1, q2, q3, q, c0, c1, c2, c3]
        · simp [p1, p2, p3, q1, q2, q3, q, c0, c1, c2, c3]
      · simp [p1, p2, q1, q2, q, c0, c1, c2]
    · simp [p1, q1, q, c0, c1]
  · simp [c0]

set_option maxHeartbeats 1000000 in
theorem bare_long (p : List Int) (y0 y1 y2 y3 : Int) (b off cap n : Nat) (w : World) (hn : n = p.length + 4) (hv : Octs w (.slice (some ⟨b, off, none⟩) n cap) (p ++ [y0, y1, y2, y3])) (hc : n ≤ cap) (hm : cap ≤ maxLen) (hl : n ≤ 140737488355328) :
    Calls Try.prog 40 #[.slice (some ⟨b, off, none⟩) n cap] w fun e w' => ∃ v', e = .returned (.tuple #[v', .int .i64 (if [y0, y1, y2, y3] = lastL (ext ones p) then 0 else 21)]) ∧ OwnB w' w.heap.size v' (if [y0, y1, y2, y3] = lastL (ext ones p) then p else []) ∧ Below w.heap.size w w' := by
  have HV : Hid (Octs w (.slice (some ⟨b, off, none⟩) n cap) (p ++ [y0, y1, y2, y3])) := hv
  have HP : Hid (Octs w (.slice (some ⟨b, off, none⟩) p.length cap) p) := hv.front rfl (by simp [hn])
  have hcell : ∀ j x, [y0, y1, y2, y3][j]? = some x → w.cell? ⟨b, off + (p.length + j), none⟩ = some (.int .u8 x) := by
    intro j x hj
    rcases hv.2 with ⟨h0, _⟩ | ⟨_, b', off', cap', e, _, _, hjj⟩
    · simp at h0
    · simp at e
      obtain ⟨⟨rfl, rfl⟩, _, rfl⟩ := e
      exact hjj (p.length + j) x (by rw [List.getElem?_append_right (by omega)]; simpa using hj)
  have k0 := hcell 0 y0 rfl
  have k1 := hcell 1 y1 rfl
  have k2 := hcell 2 y2 rfl
  have k3 := hcell 3 y3 rfl
  simp only [← Nat.add_assoc, Nat.add_zero] at k0 k1 k2 k3
  clear hcell hv
  obtain ⟨x0, x1, x2, x3, hx, b0, b1, b2, b3⟩ := lastL_four (ext ones p)
  have HX : Hid (lastL (ext ones p) = [x0, x1, x2, x3]) := hx
  rw [hx]
  clear hx
  subst hn
  unfold maxLen at hm
  have g1 : (0 : Int) ≤ (p.length : Int) := by omega
  have g2 : (p.length : Int) ≤ (cap : Int) := by omega
  have g3 : ((p.length + 4 : Nat) : Int) ≤ (cap : Int) := by omega
  have g4 : (p.length : Int) + 4 ≤ (cap : Int) := by omega
  have g5 : (p.length : Int) ≤ (p.length : Int) + 4 := by omega
  have g6 : ¬ cap = p.length := by omega
  have g7 : ¬ p.length = cap := by omega
  have harr : ∀ (b o c : Nat) (w : World), (Instr.arrayAt 99 (.slice (some ⟨b, o, none⟩) 4 c)).run Try.prog w = .ok (.pointer (some ⟨b, o, none⟩)) w := by
    intro b o c w
    simp [Instr.arrayAt, run_underlying Try.underlying99]
  have n0 := World.new_ne w _ k0
  have n1 := World.new_ne w _ k1
  have n2 := World.new_ne w _ k2
  have n3 := World.new_ne w _ k3
  by_cases c : [y0, y1, y2, y3] = [x0, x1, x2, x3]
  · have heq := eq_four y0 y1 y2 y3 x0 x1 x2 x3
    rw [decide_eq_true c] at heq
    rw [if_pos c, if_pos c]
    clear c
    go_enter Try.func40, Try.ntmps40
    go_wp2_with fail
    go_region_held3 (fun w' => w'.cell? ⟨b, off + p.length, none⟩ = some (.int .u8 y0) ∧ w'.cell? ⟨b, off + p.length + 1, none⟩ = some (.int .u8 y1) ∧ w'.cell? ⟨b, off + p.length + 2, none⟩ = some (.int .u8 y2) ∧ w'.cell? ⟨b, off + p.length + 3, none⟩ = some (.int .u8 y3)) (go_keep) (first
      | (go_at_call 55; refine (sum_any p _ _ (HP.out.up (up_dr (Below.refl _ _)))).mono ?_; rintro e w1 ⟨rfl, rfl⟩)
      | (go_at_call 54; refine (octets_any _ x0 x1 x2 x3 HX.out _).mono ?_; rintro e w2 ⟨rfl, rfl⟩))
    all_goals
      go_wp2_with (at_builtin; refine wpList_append_octs _ rfl _ _ rfl w.heap.size _ [] rfl (World.ownsRow_nil _ _ _ _) _ p rfl (HP.out.up (by repeat (first | exact Below.refl _ _ | apply up_dr | apply up_al))) (by simp; omega) (by simp; omega) ?_)
      intro v5 w5 hown5 hg5
      go_wp2
      go_ret2
      refine ⟨_, rfl, hown5, ?_⟩
      refine Below.grown (by repeat (first | exact Below.refl _ _ | apply up_dr | apply up_al)) hg5 (by simp; omega) (by simp [Value.ownBlock])
  · have heq := eq_four y0 y1 y2 y3 x0 x1 x2 x3
    rw [decide_eq_false c] at heq
    rw [if_neg c, if_neg c]
    clear c
    go_enter Try.func40, Try.ntmps40
    go_wp2_with fail
    go_region_held3 (fun w' => w'.cell? ⟨b, off + p.length, none⟩ = some (.int .u8 y0) ∧ w'.cell? ⟨b, off + p.length + 1, none⟩ = some (.int .u8 y1) ∧ w'.cell? ⟨b, off + p.length + 2, none⟩ = some (.int .u8 y2) ∧ w'.cell? ⟨b, off + p.length + 3, none⟩ = some (.int .u8 y3)) (go_keep) (first
      | (go_at_call 55; refine (sum_any p _ _ (HP.out.up (up_dr (Below.refl _ _)))).mono ?_; rintro e w1 ⟨rfl, rfl⟩)
      | (go_at_call 54; refine (octets_any _ x0 x1 x2 x3 HX.out _).mono ?_; rintro e w2 ⟨rfl, rfl⟩))
    all_goals
      go_wp2
      go_ret2
      exact ⟨_, rfl, OwnB.nil _ _, by repeat (first | exact Below.refl _ _ | apply up_dr | apply up_al)⟩
end Go.Proofs.Ytekoniaobmapdaa
