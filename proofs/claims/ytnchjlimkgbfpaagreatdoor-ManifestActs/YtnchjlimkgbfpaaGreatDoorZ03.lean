/- The texts HEnv, SMath, SBridge, SLeaf, SOctets, SGuard, SBare, SBareAny, in this order. -/
import Derived.Test.YtnchjlimkgbfpaaGreatDoorRows
import Derived.Test.YtnchjlimkgbfpaaGreatDoorZ02
import Derived.Stop.LaidErr
import Derived.Lib.LaidTab
import Derived.LaidLaws
import Derived.RowKitTokens
import Derived.JoinedAt
import Derived.JoinedOf
import Derived.ChangeVars
import Derived.ChangeSame
import Derived.ChangeMaps5
import Derived.Laws.BitsAllLaws
import Derived.Test.YtnchjlimkgbfpaaGreatDoorZ01
import Derived.Deep.RegionHeld3
import Derived.Deep.OwnRows
import Derived.Deep.AppendLies
import Derived.ChangeKeysEq
import Derived.Lib.SlBytesConst

namespace Go.Proofs.YtnchjlimkgbfpaaGreatDoor
open Go.RowKit
set_option linter.unusedVariables false
set_option maxRecDepth 20000
theorem gES : Tryz.prog.globalNamed "strconv.ErrSyntax" = some 0 := by kernel_rfl
theorem gER : Tryz.prog.globalNamed "strconv.ErrRange" = some 1 := by kernel_rfl
theorem gPT : Tryz.prog.globalNamed "internal/strconv.uint64pow10" = some 2 := by kernel_rfl
theorem gESt : (Tryz.prog.globals[0]?).map (·.type) = some 163 := by kernel_rfl
theorem gERt : (Tryz.prog.globals[1]?).map (·.type) = some 163 := by kernel_rfl
theorem gPTt : (Tryz.prog.globals[2]?).map (·.type) = some 289 := by kernel_rfl
theorem cells125 : Tryz.prog.cellsOf 297 = 1 := by kernel_rfl
theorem cells9 : Tryz.prog.cellsOf 9 = 1 := by kernel_rfl
theorem cells86 : Tryz.prog.cellsOf 156 = 1 := by kernel_rfl
theorem cells117 : Tryz.prog.cellsOf 289 = 20 := by kernel_rfl
theorem starE : "*" ++ "errors.errorString" = "*errors.errorString" := by decide
theorem row123 (u : TypeId) (h : Tryz.prog.typeName? 3 u = some "*errors.errorString") : u = 295 :=
  typeName_ptr_named (nm := "errors.errorString") (by rw [starE]; kernel_rfl) (by kernel_rfl) (by decide) u (by rw [starE]; exact h)
def laidL : List (String × DataW Unit) := [("math/bits.deBruijn32tab", Rows.laid_math_bits_deBruijn32tab), ("math/bits.deBruijn64tab", Rows.laid_math_bits_deBruijn64tab), ("internal/strconv.uint64pow10", Rows.laid_internal_strconv_uint64pow10), ("strconv.ErrRange", Rows.laid_strconv_ErrRange), ("strconv.ErrSyntax", Rows.laid_strconv_ErrSyntax)]
theorem env_of {W : World} (h : laidMet Tryz.prog laidL W) : EnvL W := by
  have h3 := h.tail.tail
  have ht : Lib.TabIs Tryz.prog W "internal/strconv.uint64pow10" .u64 Lib.pow10Tab := Lib.tabIs_of_head gPT gPTt Tryz.underlying289 Tryz.underlying156 cells86 cells117 h3
  obtain ⟨a1, s1, hv1, -, -, -⟩ := laid_sentinel h3.tail gER gERt Tryz.underlying163 row123 Tryz.underlying295 Tryz.underlying297 rfl rfl Tryz.underlying9 cells125 cells9
  obtain ⟨a0, s0, hv0, -, -, -⟩ := laid_sentinel h3.tail.tail gES gESt Tryz.underlying163 row123 Tryz.underlying295 Tryz.underlying297 rfl rfl Tryz.underlying9 cells125 cells9
  have c0 : W.cell? ⟨0, 0, none⟩ = some (.iface 295 (.pointer (some a0))) := by have h0 := World.var?_cell gES hv0 0; simpa using h0
  have c1 : W.cell? ⟨1, 0, none⟩ = some (.iface 295 (.pointer (some a1))) := by have h0 := World.var?_cell gER hv1 0; simpa using h0
  refine ⟨Lib.tabBelow_of_tabIs ht, _, _, _, _, c0, c1, ?_⟩
  have := World.block_lt_of_cell? W _ c1
  simp at this
  omega
noncomputable def low : Nat := (World.holding Tryz.prog default ⟨#[], #[], []⟩).heap.size
def d32 : List Int := [0, 1, 28, 2, 29, 14, 24, 3, 30, 22, 20, 15, 25, 17, 4, 8, 31, 27, 13, 23, 21, 19, 16, 7, 26, 12, 18, 6, 11, 5, 10, 9]
def d64 : List Int := [0, 1, 56, 2, 57, 49, 28, 3, 61, 58, 42, 50, 38, 29, 17, 4, 62, 47, 59, 36, 45, 43, 51, 22, 53, 39, 33, 30, 24, 18, 12, 5, 63, 55, 48, 27, 60, 41, 37, 16, 46, 35, 44, 21, 52, 32, 23, 11, 54, 26, 40, 15, 34, 20, 31, 10, 25, 14, 19, 9, 13, 8, 7, 6]
def synS : ByteArray := { data := #[105, 110, 118, 97, 108, 105, 100, 32, 115, 121, 110, 116, 97, 120] }
def rngS : ByteArray := { data := #[118, 97, 108, 117, 101, 32, 111, 117, 116, 32, 111, 102, 32, 114, 97, 110, 103, 101] }
noncomputable def laidWorld (os : Os) : World :=
  let w0 := World.holding Tryz.prog os ⟨#[.cells #[.string synS] 297, .cells #[.string rngS] 297], #[], []⟩
  let put (h : Array Obj) (g : Nat) (cs : Array Value) : Array Obj := h.modify g fun
    | .cells _ t frozen => .cells cs t frozen
    | o => o
  let h0 := put (put w0.heap 0 #[.iface 295 (.pointer (some ⟨low, 0, none⟩))]) 1 #[.iface 295 (.pointer (some ⟨low + 1, 0, none⟩))]
  let h1 := put h0 2 (Lib.pow10Tab.map fun z => Value.int .u64 z).toArray
  let h2 := put h1 4 (d32.map fun z => Value.int .u8 z).toArray
  let h3 := put h2 5 (d64.map fun z => Value.int .u8 z).toArray
  { w0 with heap := h3 }
set_option maxRecDepth 100000 in
theorem laidWorld_met (os : Os) (args : Array Value) : laidMet Tryz.prog laidL ((laidWorld os).forCall (fun _ _ => 0) ⟨#[], args, []⟩).memory :=
  laidMet_of_run' 8 (by kernel_rfl) (by kernel_rfl)
end Go.Proofs.YtnchjlimkgbfpaaGreatDoor

namespace Go.Proofs.YtnchjlimkgbfpaaGreatDoor.SumPlain
def poly : BitVec 32 := 0x04c11db7#32
def stp (c : BitVec 32) : BitVec 32 := (c <<< 1) ^^^ (if c.msb then poly else 0#32)
def stpN : Nat → BitVec 32 → BitVec 32
  | 0, c => c
  | n + 1, c => stpN n (stp c)
theorem stpN_add : ∀ (n m : Nat) (c : BitVec 32), stpN (n + m) c = stpN m (stpN n c)
  | 0, m, c => by rw [Nat.zero_add]; rfl
  | n + 1, m, c => by
    rw [Nat.add_right_comm]
    exact stpN_add n m (stp c)
def top (x : BitVec 8) : BitVec 32 := (x.setWidth 32) <<< 24
def octS (c : BitVec 32) (x : BitVec 8) : BitVec 32 := stpN 8 (c ^^^ top x)
def extS (c : BitVec 32) (l : List (BitVec 8)) : BitVec 32 := l.foldl octS c
theorem ext_append (c : BitVec 32) (a b : List (BitVec 8)) : extS c (a ++ b) = extS (extS c a) b := by simp [extS]
end Go.Proofs.YtnchjlimkgbfpaaGreatDoor.SumPlain

namespace Go.Proofs.YtnchjlimkgbfpaaGreatDoor.SumPlain
def ob (l : List Int) : List (BitVec 8) := l.map (BitVec.ofInt 8)
theorem ob_append (a b : List Int) : ob (a ++ b) = ob a ++ ob b := by simp [ob]
def ext (c : BitVec 32) (l : List Int) : BitVec 32 := extS c (ob l)
theorem ext_app (c : BitVec 32) (a b : List Int) : ext c (a ++ b) = ext (ext c a) b := by
  unfold ext
  rw [ob_append, ext_append]
theorem ext_snoc (c : BitVec 32) (a : List Int) (x : Int) : ext c (a ++ [x]) = octS (ext c a) (BitVec.ofInt 8 x) := by
  rw [ext_app]
  rfl
theorem u32_of (c : BitVec 32) : (c.toNat : Int) < 4294967296 := by
  have := c.isLt
  omega
theorem xor32 (a b : BitVec 32) : bits .xor .u32 (a.toNat : Int) (b.toNat : Int) = ((a ^^^ b).toNat : Int) := by
  rw [u32_xor_nat a.toNat b.toNat a.isLt b.isLt, BitVec.toNat_xor]
theorem shl32 (c : BitVec 32) (n : Nat) : ((c.toNat : Int) * 2 ^ n) % 4294967296 = ((c <<< n).toNat : Int) := by
  rw [BitVec.toNat_shiftLeft, Nat.shiftLeft_eq, Int.natCast_emod, Int.natCast_mul, Int.natCast_pow]
  rfl
theorem msb_big (c : BitVec 32) : c.msb = decide (2147483648 ≤ c.toNat) := by
  rw [BitVec.msb_eq_decide]
theorem and_top (c : BitVec 32) : bits .and .u32 (c.toNat : Int) 2147483648 = if c.msb then 2147483648 else 0 := by
  have e := u32_and_nat c.toNat 2147483648 c.isLt (by decide)
  refine e.trans ?_
  have t : (c.toNat &&& 2147483648) = (c &&& 0x80000000#32).toNat := by rw [BitVec.toNat_and]; rfl
  have f : c &&& 0x80000000#32 = if c.msb then 0x80000000#32 else 0#32 := by
    apply BitVec.eq_of_getLsbD_eq
    intro i hi
    have h2 : ∀ i, i < 32 → (0x80000000#32).getLsbD i = decide (i = 31) := by decide
    rw [BitVec.getLsbD_and, h2 i hi]
    by_cases k : i = 31
    · subst k
      rw [← BitVec.msb_eq_getLsbD_last c]
      cases c.msb <;> simp
    · cases c.msb <;> simp [k, h2 i hi]
  rw [t, f]
  cases c.msb <;> rfl
theorem shr_top (c : BitVec 32) : (c.toNat : Int) / 2147483648 = if c.msb then 1 else 0 := by
  have h := c.isLt
  rw [msb_big]
  by_cases k : 2147483648 ≤ c.toNat
  · simp [k]; omega
  · simp [k]; omega
theorem stp_big (c : BitVec 32) (h : c.msb = true) : bits .xor .u32 ((c <<< 1).toNat : Int) 79764919 = ((stp c).toNat : Int) := by
  have e := xor32 (c <<< 1) poly
  have p : (poly.toNat : Int) = 79764919 := by decide
  rw [p] at e
  rw [e]
  unfold stp
  rw [h]
  rfl
theorem stp_small (c : BitVec 32) (h : c.msb = false) : c <<< 1 = stp c := by
  unfold stp
  rw [h]
  simp
theorem stpN_succ (n : Nat) (c : BitVec 32) : stpN (n + 1) c = stp (stpN n c) := stpN_add n 1 c
theorem ob8 (x : Int) (h0 : 0 ≤ x) (h1 : x ≤ 255) : (BitVec.ofInt 8 x).toNat = x.toNat := by
  obtain ⟨n, rfl⟩ := Int.eq_ofNat_of_zero_le h0
  rw [BitVec.ofInt_natCast, BitVec.toNat_ofNat]
  simp
  omega
theorem top_int (x : Int) (h0 : 0 ≤ x) (h1 : x ≤ 255) : ((top (BitVec.ofInt 8 x)).toNat : Int) = x * 16777216 := by
  unfold top
  rw [BitVec.toNat_shiftLeft, BitVec.toNat_setWidth, ob8 x h0 h1, Nat.shiftLeft_eq]
  omega
theorem in_top (c : BitVec 32) (x : Int) (h0 : 0 ≤ x) (h1 : x ≤ 255) : bits .xor .u32 (c.toNat : Int) (x * 16777216) = ((c ^^^ top (BitVec.ofInt 8 x)).toNat : Int) := by
  rw [← top_int x h0 h1, xor32]
def lastL (c : BitVec 32) : List Int := [(c.toNat : Int) / 16777216 % 256, (c.toNat : Int) / 65536 % 256, (c.toNat : Int) / 256 % 256, (c.toNat : Int) % 256]
theorem lastL_len (c : BitVec 32) : (lastL c).length = 4 := rfl
theorem lastL_octet (c : BitVec 32) : ∀ x ∈ lastL c, 0 ≤ x ∧ x ≤ 255 := by
  intro x hx
  simp only [lastL, List.mem_cons, List.mem_nil_iff, or_false] at hx
  rcases hx with rfl | rfl | rfl | rfl <;> omega
def ones : BitVec 32 := 0xffffffff#32
def bareOf (l : List Int) : List Int × Int := if l.length < 4 then ([], 8) else if l.drop (l.length - 4) = lastL (ext ones (l.take (l.length - 4))) then (l.take (l.length - 4), 0) else ([], 21)
end Go.Proofs.YtnchjlimkgbfpaaGreatDoor.SumPlain

namespace Go.Proofs.YtnchjlimkgbfpaaGreatDoor
open Go.RowKit SumPlain
set_option linter.unusedVariables false
set_option maxRecDepth 20000
theorem shl1 (r : BitVec 32) : (r.toNat : Int) * (2 : Int) % (4294967296 : Int) = ((r <<< 1).toNat : Int) := shl32 r 1
theorem shl1_small (r : BitVec 32) (h : r.msb = false) : (r.toNat : Int) * (2 : Int) = ((stp r).toNat : Int) := by
  rw [← stp_small r h, ← shl1]
  have e := msb_big r
  rw [h] at e
  have := of_decide_eq_false e.symm
  omega
theorem ret_u32 {a b : Int} (h : a = b) : Value.int .u32 a = .int .u32 b := by rw [h]
set_option maxHeartbeats 400000 in
theorem shifted_any (c : BitVec 32) (w : World) :
    Calls Tryz.prog 211 #[.int .u32 (c.toNat : Int)] w fun e w' => e = .returned (.int .u32 ((stpN 8 c).toNat : Int)) ∧ w' = w := by
  go_enter Tryz.func211, Tryz.ntmps211
  go_wp2
  go_loopw [0, 4] (fun s i wr => ∃ k : Nat, k ≤ 8 ∧ i = .int .i64 k ∧ s = .int .u32 ((stpN k c).toNat : Int) ∧ wr = w) (fun _ i _ => 8 - (intOf i).toNat)
  case atStart => exact ⟨0, Nat.zero_le _, rfl, rfl, rfl⟩
  case round =>
    obtain ⟨k, hk, rfl, rfl, rfl⟩ := hrel
    by_cases hlt : k < 8
    · have hlt' : (k : Int) < 8 := by omega
      have HS : Hid (stpN (k + 1) c = stp (stpN k c)) := stpN_succ k c
      generalize stpN k c = r at *
      have hu := u32_of r
      have ha := and_top r
      cases hm : r.msb
      · rw [hm] at ha
        simp only [Bool.false_eq_true, if_false] at ha
        go_wp2
        exact ⟨⟨k + 1, by omega, by go_num, ret_u32 (by rw [HS.out, shl1, stp_small r hm]), trivial⟩, by simp [intOf]; omega⟩
      · rw [hm] at ha
        simp only [if_true] at ha
        go_wp2
        exact ⟨⟨k + 1, by omega, by go_num, ret_u32 (by rw [HS.out, shl1, stp_big r hm]), trivial⟩, by simp [intOf]; omega⟩
    · have hlt' : ¬ (k : Int) < 8 := by omega
      obtain rfl : k = 8 := by omega
      go_wp2
      go_ret
      exact ⟨rfl, rfl⟩
theorem Octs.at {w : World} {v : Value} {l : List Int} (h : Octs w v l) (k : Nat) (hk : k < l.length) :
    ∃ b off cap, v = .slice (some ⟨b, off, none⟩) l.length cap ∧ l.length ≤ cap ∧ cap ≤ maxLen ∧ w.cell? ⟨b, off + k, none⟩ = some (.int .u8 (l.getD k 0)) := by
  obtain ⟨_, h⟩ := h
  rcases h with ⟨rfl, _⟩ | ⟨hn, b, off, cap, rfl, hc, hm, hj⟩
  · simp at hk
  · exact ⟨b, off, cap, rfl, hc, hm, hj k _ (by simp [List.getD, hk])⟩
theorem Octs.len {w : World} {v : Value} {l : List Int} (h : Octs w v l) : ∃ a cap, v = .slice a l.length cap ∧ l.length ≤ cap ∧ l.length ≤ maxLen := by
  obtain ⟨_, h⟩ := h
  rcases h with ⟨rfl, a, cap, rfl, _⟩ | ⟨hn, b, off, cap, rfl, hc, hm, hj⟩
  · exact ⟨a, cap, rfl, Nat.zero_le _, Nat.zero_le _⟩
  · exact ⟨_, cap, rfl, hc, by omega⟩
theorem Octs.oct {w : World} {v : Value} {l : List Int} (h : Octs w v l) (k : Nat) (hk : k < l.length) : 0 ≤ l.getD k 0 ∧ l.getD k 0 ≤ 255 := h.1 _ (by simp [List.getD, hk])
set_option maxHeartbeats 400000 in
theorem extend_any (c : BitVec 32) (l : List Int) (v : Value) (w : World) (hv : Octs w v l) :
    Calls Tryz.prog 187 #[.int .u32 (c.toNat : Int), v] w fun e w' => e = .returned (.int .u32 ((ext c l).toNat : Int)) ∧ w' = w := by
  have HV : Hid (Octs w v l) := hv
  obtain ⟨a, cap, rfl, hcap, hmax⟩ := hv.len
  clear hv
  unfold maxLen at hmax
  go_enter Tryz.func187, Tryz.ntmps187
  go_wp2
  go_loopw [0, 9] (fun s i wr => ∃ k : Nat, k ≤ l.length ∧ i = .int .i64 k ∧ s = .int .u32 ((ext c (l.take k)).toNat : Int) ∧ wr = w) (fun _ i _ => l.length - (intOf i).toNat)
  case atStart => exact ⟨0, Nat.zero_le _, rfl, rfl, rfl⟩
  case round =>
    obtain ⟨k, hk, rfl, rfl, rfl⟩ := hrel
    by_cases hlt : k < l.length
    · have hlt' : (k : Int) < (l.length : Int) := by omega
      have HS : Hid (ext c (l.take (k + 1)) = octS (ext c (l.take k)) (BitVec.ofInt 8 (l.getD k 0))) := by unfold Hid; rw [take_snoc l k 0 hlt, ext_snoc]
      obtain ⟨b, off, cap', e, _, _, hcell⟩ := HV.out.at k hlt
      simp at e
      obtain ⟨rfl, rfl⟩ := e
      obtain ⟨x0, x1⟩ := HV.out.oct k hlt
      generalize ext c (l.take k) = r at *
      generalize l.getD k 0 = x at *
      have hu := u32_of r
      have HT : Hid (bits .xor .u32 (r.toNat : Int) (x * 16777216) = ((r ^^^ top (BitVec.ofInt 8 x)).toNat : Int)) := in_top r x x0 x1
      go_wp2_with fail
      rw [HT.out]
      refine (shifted_any _ _).mono ?_
      rintro e w1 ⟨rfl, rfl⟩
      go_wp2
      exact ⟨⟨k + 1, by omega, by go_num, ret_u32 (by rw [HS.out]; rfl), trivial⟩, by simp [intOf]; omega⟩
    · have hlt' : ¬ (k : Int) < (l.length : Int) := by omega
      obtain rfl : k = l.length := by omega
      rw [List.take_length]
      go_wp2
      go_ret
      exact ⟨rfl, rfl⟩
theorem sum_any (l : List Int) (v : Value) (w : World) (hv : Octs w v l) :
    Calls Tryz.prog 157 #[v] w fun e w' => e = .returned (.int .u32 ((ext ones l).toNat : Int)) ∧ w' = w := by
  have HV : Hid (Octs w v l) := hv
  clear hv
  go_enter Tryz.func157, Tryz.ntmps157
  go_wp2_with fail
  refine (extend_any ones l _ _ HV.out).mono ?_
  rintro e w1 ⟨rfl, rfl⟩
  go_wp2
  go_ret
  exact ⟨rfl, rfl⟩
set_option maxHeartbeats 400000 in
theorem refExtend_any (c : BitVec 32) (l : List Int) (v : Value) (w : World) (hv : Octs w v l) :
    Calls Tryz.prog 159 #[.int .u32 (c.toNat : Int), v] w fun e w' => e = .returned (.int .u32 ((ext c l).toNat : Int)) ∧ w' = w := by
  have HV : Hid (Octs w v l) := hv
  obtain ⟨a, cap, rfl, hcap, hmax⟩ := hv.len
  clear hv
  unfold maxLen at hmax
  go_enter Tryz.func159, Tryz.ntmps159
  go_wp2
  go_loopw [0, 5] (fun s i wr => ∃ k : Nat, k ≤ l.length ∧ i = .int .i64 k ∧ s = .int .u32 ((ext c (l.take k)).toNat : Int) ∧ wr = w) (fun _ i _ => l.length - (intOf i).toNat)
  case atStart => exact ⟨0, Nat.zero_le _, rfl, rfl, rfl⟩
  case round =>
    obtain ⟨k, hk, rfl, rfl, rfl⟩ := hrel
    by_cases hlt : k < l.length
    · have hlt' : (k : Int) < (l.length : Int) := by omega
      have HS : Hid (ext c (l.take (k + 1)) = octS (ext c (l.take k)) (BitVec.ofInt 8 (l.getD k 0))) := by unfold Hid; rw [take_snoc l k 0 hlt, ext_snoc]
      obtain ⟨b, off, cap', e, _, _, hcell⟩ := HV.out.at k hlt
      simp at e
      obtain ⟨rfl, rfl⟩ := e
      obtain ⟨x0, x1⟩ := HV.out.oct k hlt
      generalize ext c (l.take k) = r at *
      generalize l.getD k 0 = x at *
      have hu := u32_of r
      have HT : Hid (bits .xor .u32 (r.toNat : Int) (x * 16777216) = ((r ^^^ top (BitVec.ofInt 8 x)).toNat : Int)) := in_top r x x0 x1
      go_wp2_with fail
      rw [HT.out]
      have HS2 : Hid (ext c (l.take (k + 1)) = stpN 8 (r ^^^ top (BitVec.ofInt 8 x))) := HS.out
      clear HS HT
      generalize r ^^^ top (BitVec.ofInt 8 x) = r8 at *
      go_loopw [0, 6] (fun s i wx => ∃ j : Nat, j ≤ 8 ∧ i = .int .i64 j ∧ s = .int .u32 ((stpN j r8).toNat : Int) ∧ wx = wr) (fun _ i _ => 8 - (intOf i).toNat)
      case atStart => exact ⟨0, Nat.zero_le _, rfl, rfl, rfl⟩
      case round =>
        obtain ⟨j, hj, rfl, rfl, rfl⟩ := hrel
        by_cases hlt8 : j < 8
        · have hlt8' : (j : Int) < 8 := by omega
          have HS : Hid (stpN (j + 1) r8 = stp (stpN j r8)) := stpN_succ j r8
          generalize stpN j r8 = q at *
          have hu := u32_of q
          have ha := shr_top q
          cases hm : q.msb
          · rw [hm] at ha
            simp only [Bool.false_eq_true, if_false] at ha
            go_wp2
            exact ⟨⟨j + 1, by omega, by go_num, ret_u32 (by rw [HS.out, shl1_small q hm]), trivial⟩, by simp [intOf]; omega⟩
          · rw [hm] at ha
            simp only [if_true] at ha
            go_wp2
            exact ⟨⟨j + 1, by omega, by go_num, ret_u32 (by rw [HS.out, shl1, stp_big q hm]), trivial⟩, by simp [intOf]; omega⟩
        · have hlt8' : ¬ (j : Int) < 8 := by omega
          obtain rfl : j = 8 := by omega
          go_wp2
          exact ⟨⟨k + 1, by omega, by go_num, ret_u32 (by rw [HS2.out]), trivial⟩, by simp [intOf]; omega⟩
    · have hlt' : ¬ (k : Int) < (l.length : Int) := by omega
      obtain rfl : k = l.length := by omega
      rw [List.take_length]
      go_wp2
      go_ret
      exact ⟨rfl, rfl⟩
theorem refSum_any (l : List Int) (v : Value) (w : World) (hv : Octs w v l) :
    Calls Tryz.prog 127 #[v] w fun e w' => e = .returned (.int .u32 ((ext ones l).toNat : Int)) ∧ w' = w := by
  have HV : Hid (Octs w v l) := hv
  clear hv
  go_enter Tryz.func127, Tryz.ntmps127
  go_wp2_with fail
  refine (refExtend_any ones l _ _ HV.out).mono ?_
  rintro e w1 ⟨rfl, rfl⟩
  go_wp2
  go_ret
  exact ⟨rfl, rfl⟩
set_option maxHeartbeats 400000 in
theorem copied_any (l : List Int) (v : Value) (w : World) (hv : Octs w v l) (hl : l.length ≤ 140737488355328) :
    Calls Tryz.prog 95 #[v] w fun e w' => ∃ v', e = .returned v' ∧ OwnB w' w.heap.size v' l ∧ Below w.heap.size w w' := by
  have HV : Hid (Octs w v l) := hv
  clear hv
  go_enter Tryz.func95, Tryz.ntmps95
  go_wp2_with (at_builtin; refine wpList_append_octs _ rfl _ _ rfl w.heap.size _ [] rfl (World.ownsRow_nil _ _ _ _) _ l rfl HV.out ?c1 (Nat.le_refl _) ?_)
  case c1 => simpa using hl
  intro v' w' hown hg
  go_wp2
  go_ret
  refine ⟨_, rfl, hown, ?_⟩
  exact (Below.refl _ _).grown hg (Nat.le_refl _) (by simp [Value.ownBlock])
theorem same_any (l1 l2 : List Int) (v1 v2 : Value) (w : World) (h1 : Octs w v1 l1) (h2 : Octs w v2 l2) :
    Calls Tryz.prog 46 #[v1, v2] w fun e w' => e = .returned (.bool (decide (l1 = l2))) ∧ w' = w := by
  have k1 := run_convert_octs l1 v1 w h1
  have k2 := run_convert_octs l2 v2 w h2
  have H : Hid (((strOfNums l1).toList == (strOfNums l2).toList) = decide (l1 = l2)) := str_eq l1 l2 h1.1 h2.1
  go_enter Tryz.func46, Tryz.ntmps46
  go_wp2
  go_ret
  exact ⟨ret_bool H.out, rfl⟩
end Go.Proofs.YtnchjlimkgbfpaaGreatDoor

namespace Go.Proofs.YtnchjlimkgbfpaaGreatDoor
open Go.RowKit SumPlain
set_option linter.unusedVariables false
set_option maxRecDepth 20000
theorem lastL_four (c : BitVec 32) : ∃ x0 x1 x2 x3 : Int, lastL c = [x0, x1, x2, x3] ∧ (0 ≤ x0 ∧ x0 ≤ 255) ∧ (0 ≤ x1 ∧ x1 ≤ 255) ∧ (0 ≤ x2 ∧ x2 ≤ 255) ∧ (0 ≤ x3 ∧ x3 ≤ 255) :=
  ⟨_, _, _, _, rfl, by omega, by omega, by omega, by omega⟩
set_option maxHeartbeats 1000000 in
theorem octets_any (c : BitVec 32) (x0 x1 x2 x3 : Int) (h : lastL c = [x0, x1, x2, x3]) (w : World) :
    Calls Tryz.prog 156 #[.int .u32 (c.toNat : Int)] w fun e w' => e = .returned (.agg #[.int .u8 x0, .int .u8 x1, .int .u8 x2, .int .u8 x3]) ∧
      w' = (w.alloc (.cells #[.int .u8 x0, .int .u8 x1, .int .u8 x2, .int .u8 x3] 241)).alloc (.cells #[.int .u8 x0, .int .u8 x1, .int .u8 x2, .int .u8 x3] 241) := by
  have hu := u32_of c
  simp only [lastL, List.cons.injEq, and_true] at h
  obtain ⟨h0, h1, h2, h3⟩ := h
  have e0 : (c.toNat : Int) / 16777216 = x0 := by omega
  clear h0
  have H0 : Hid ((c.toNat : Int) / 16777216 = x0) := e0
  have H1 : Hid ((c.toNat : Int) / 65536 % 256 = x1) := h1
  have H2 : Hid ((c.toNat : Int) / 256 % 256 = x2) := h2
  have H3 : Hid ((c.toNat : Int) % 256 = x3) := h3
  clear e0 h1 h2 h3
  go_enter Tryz.func156, Tryz.ntmps156
  go_wp2
  refine wp_loop_rounds 5 ?_
  rw [rounds_succ]
  go_wp2
  rw [rounds_succ]
  go_wp2
  rw [rounds_succ]
  go_wp2
  rw [rounds_succ]
  go_wp2
  rw [rounds_succ]
  go_wp2
  go_returns
  rw [H0.out, H1.out, H2.out, H3.out]
  exact ⟨rfl, rfl⟩
theorem wp_append_octs (w : World) {o : Oper} {a : Act} {K : Act → World → Prop} {Q : Exit → Act → World → Prop} (s x : Operand)
    (ho : o.op = .call { callee := .builtin .append, args := #[s, x], argTypes := #[88, 88] }) (base : Nat) (v : Value) (l0 : List Int) (hs : a.eval s = v) (hown : OwnB w base v l0)
    (vx : Value) (lx : List Int) (hx : a.eval x = vx) (hO : Octs w vx lx) (hsz : l0.length + lx.length ≤ 140737488355328) (hbase : base ≤ w.heap.size)
    (h : ∀ v' w', OwnB w' base v' (l0 ++ lx) → w.grownBy w' v.ownBlock → K (a.put o.dst v') w') : o.wp Tryz.prog a w K Q := by
  obtain ⟨i0, hi, hz0, hz1, hz2⟩ := info_some Tryz.info5
  obtain ⟨hoct, hO⟩ := hO
  have fin : ∀ v' w', w'.ownsRow base 5 1 v' (l0.length + lx.length) (l0.map (Value.int .u8) ++ lx.map (Value.int .u8)) → w.grownBy w' v.ownBlock → K (a.put o.dst v') w' := by
    intro v' w' h1 h2
    refine h v' w' ?_ h2
    unfold OwnB
    rw [List.length_append, List.map_append]
    exact h1
  rcases hO with ⟨rfl, ax, cap, rfl, hn⟩ | ⟨hne, b, off, cap, rfl, hcap, hm, hc⟩
  · cases ax with
    | none =>
      obtain rfl := hn rfl
      have hrun := run_append_owned_none (P := Tryz.prog) (w := w) base 88 o.type 5 i0 1 Tryz.underlying88 hi v l0.length (l0.map (Value.int .u8)) hown
      unfold Oper.wp
      simp [execOp, ho, resolve, invoke, builtin, hs, hx, hrun, Result.andThen]
      refine fin v w ?_ (grown_refl w _)
      unfold OwnB at hown
      simpa using hown
    | some ad =>
      refine wp_append_own w s x 88 ho base 5 i0 (.int .u8 0) 1 1 Tryz.underlying88 hi hz0 hz1 hz2 rfl (by decide) v l0.length _ hs hown ad 0 cap [] hx rfl (fun j u hj => by simp at hj) (fun u hu => by cases hu) ?_ ?_ hbase ?_
      · simp only [List.length_nil] at hsz; unfold maxLen; omega
      · simp only [List.length_nil] at hsz; omega
      · intro v' w' h1 h2 _
        exact fin v' w' (by simpa using h1) h2
  · refine wp_append_own w s x 88 ho base 5 i0 (.int .u8 0) 1 1 Tryz.underlying88 hi hz0 hz1 hz2 rfl (by decide) v l0.length _ hs hown ⟨b, off, none⟩ lx.length cap (lx.map (Value.int .u8)) hx (by simp) ?_ (one_u8 lx) ?_ ?_ hbase ?_
    · intro j u hj
      rw [List.getElem?_map] at hj
      cases hx : lx[j]? with
      | none => rw [hx] at hj; cases hj
      | some y =>
        rw [hx] at hj
        simp at hj
        subst hj
        rw [Addr.add_lit]
        exact hc j y hx
    · unfold maxLen; omega
    · omega
    · intro v' w' h1 h2 _
      exact fin v' w' h1 h2
theorem step_append_octs (w : World) {ops : Array Oper} {o : Oper} {a : Act} {K : Act → World → Prop} {Q : Exit → Act → World → Prop} {E : Prop} (hgd : o.guard = none) (s x : Operand)
    (ho : o.op = .call { callee := .builtin .append, args := #[s, x], argTypes := #[88, 88] }) (base : Nat) (v : Value) (l0 : List Int) (hs : a.eval s = v) (hown : OwnB w base v l0)
    (vx : Value) (lx : List Int) (hx : a.eval x = vx) (hO : Octs w vx lx) (hsz : l0.length + lx.length ≤ 140737488355328) (hbase : base ≤ w.heap.size)
    (h : ∀ v' w', OwnB w' base v' (l0 ++ lx) → w.grownBy w' v.ownBlock → K (a.put o.dst v') w') :
    if Region.wanted o (yielded ops a.tmps) = true then Oper.wp Tryz.prog o a w K Q else E := by
  have hw : Region.wanted o (yielded ops a.tmps) = true := by simp [Region.wanted, hgd]
  rw [if_pos hw]
  exact wp_append_octs w s x ho base v l0 hs hown vx lx hx hO hsz hbase h
end Go.Proofs.YtnchjlimkgbfpaaGreatDoor

namespace Go.Proofs.YtnchjlimkgbfpaaGreatDoor
open Go.RowKit SumPlain
set_option linter.unusedVariables false
set_option maxRecDepth 20000
def guardOf (l : List Int) : List Int := l ++ lastL (ext ones l)
theorem guard_octet (l : List Int) (h : ∀ x ∈ l, 0 ≤ x ∧ x ≤ 255) : ∀ x ∈ guardOf l, 0 ≤ x ∧ x ≤ 255 := by
  intro x hx
  rcases List.mem_append.1 hx with h1 | h1
  · exact h x h1
  · exact lastL_octet _ x h1
set_option maxHeartbeats 1000000 in
theorem guard_any (l : List Int) (v : Value) (w : World) (hv : Octs w v l) (hl : l.length ≤ 140737488351232) :
    Calls Tryz.prog 121 #[v] w fun e w' => ∃ v', e = .returned v' ∧ OwnB w' w.heap.size v' (guardOf l) ∧ Below w.heap.size w w' := by
  have HV : Hid (Octs w v l) := hv
  obtain ⟨a, cap, rfl, hcap, hmax⟩ := hv.len
  clear hv hmax hcap
  obtain ⟨x0, x1, x2, x3, hx, b0, b1, b2, b3⟩ := lastL_four (ext ones l)
  have HG : Hid (guardOf l = l ++ [x0, x1, x2, x3]) := by unfold Hid guardOf; rw [hx]
  have hmk : ∀ w : World, (Instr.makeSlice 88 (.int .i64 0) (.int .i64 ((l.length : Int) + 4))).run Tryz.prog w = .ok (.slice (some ⟨w.heap.size, 0, none⟩) 0 (l.length + 4)) (w.alloc (.cells (madeCells #[.int .u8 0] (l.length + 4)) 5)) := by
    intro w
    obtain ⟨i0, hi, hz0, hz1, hz2⟩ := info_some Tryz.info5
    have := run_make (P := Tryz.prog) w 88 5 i0 (.int .u8 0) Tryz.underlying88 hi hz0 .i64 .i64 0 ((l.length : Int) + 4) (Int.le_refl _) (by omega) (by rw [hz2]; omega) (by omega)
    rw [hz1] at this
    have e : ((l.length : Int) + 4).toNat = l.length + 4 := by omega
    rw [e] at this
    simpa [Value.cells] using this
  have HX : Hid (lastL (ext ones l) = [x0, x1, x2, x3]) := hx
  clear hx
  have HV2 : Hid (∀ o1 o2 o3 o4, Octs ((((w.alloc o1).alloc o2).alloc o3).alloc o4) (.slice a l.length cap) l) := fun o1 o2 o3 o4 => HV.out.up (up_al (up_al (up_al (up_al (Below.refl _ _) o1) o2) o3) o4)
  have HOwn : Hid (∀ o1 o2 o3, OwnB ((((w.alloc o1).alloc o2).alloc o3).alloc (.cells (madeCells #[.int .u8 0] (l.length + 4)) 5)) w.heap.size (.slice (some ⟨w.heap.size + 1 + 1 + 1, 0, none⟩) 0 (l.length + 4)) []) := by
    intro o1 o2 o3
    have := World.ownsRow_made (base := w.heap.size) (e := 5) (size := 1) (((w.alloc o1).alloc o2).alloc o3) (madeCells #[.int .u8 0] (l.length + 4)) (l.length + 4) (by simp; omega) (by unfold maxLen; omega) (by rw [size_madeCells]; omega)
    unfold OwnB
    simpa using this
  have HLast : Hid (∀ o1 o2 o4 wx, ((((w.alloc o1).alloc o2).alloc (.cells #[.int .u8 x0, .int .u8 x1, .int .u8 x2, .int .u8 x3] 241)).alloc o4).drew.grownBy wx (some (w.heap.size + 1 + 1 + 1)) → Octs wx (.slice (some ⟨w.heap.size + 1 + 1, 0, none⟩) 4 4) [x0, x1, x2, x3]) := by
    intro o1 o2 o4 wx hg
    refine ⟨by simp [b0, b1, b2, b3], .inr ⟨by simp, w.heap.size + 1 + 1, 0, 4, rfl, by simp, by unfold maxLen; omega, fun j x hj => ?_⟩⟩
    rw [hg.cell_far ⟨w.heap.size + 1 + 1, 0 + j, none⟩ (by simp) (by simp)]
    have e := cells_new ((w.alloc o1).alloc o2) [.int .u8 x0, .int .u8 x1, .int .u8 x2, .int .u8 x3] [] 241 j (.int .u8 x) (by
      have : ([.int .u8 x0, .int .u8 x1, .int .u8 x2, .int .u8 x3] : List Value) = [x0, x1, x2, x3].map (Value.int .u8) := rfl
      rw [this, List.getElem?_map, hj]
      rfl)
    rw [Addr.add_lit] at e
    have hb := up_al (Below.refl (((w.alloc o1).alloc o2).alloc (.cells #[.int .u8 x0, .int .u8 x1, .int .u8 x2, .int .u8 x3] 241)).heap.size _) o4
    have hc := hb.cell (p := ⟨w.heap.size + 1 + 1, 0 + j, none⟩) (by simp)
    exact hc.trans (by simpa using e)
  go_enter Tryz.func121, Tryz.ntmps121
  go_wp2_with fail
  refine (sum_any l _ _ HV.out).mono ?_
  rintro e w1 ⟨rfl, rfl⟩
  go_wp2_with fail
  refine (octets_any _ x0 x1 x2 x3 HX.out _).mono ?_
  rintro e w2 ⟨rfl, rfl⟩
  go_wp2_with fail
  go_region_held3 (fun _ => True) (trivial) (first
    | (refine step_append_octs _ (by rfl) _ _ (by rfl) w1.heap.size (.slice (some ⟨w1.heap.size + 1 + 1 + 1, 0, none⟩) 0 (l.length + 4)) [] (by rfl) (HOwn.out _ _ _) (.slice a l.length cap) l (by rfl) (HV2.out _ _ _ _) (by simp; omega) (by simp; omega) ?_; intro v3 w3 hown3 hg3)
    | (refine step_append_octs _ (by rfl) _ _ (by rfl) w1.heap.size v3 ([] ++ l) (by rfl) hown3 (.slice (some ⟨w1.heap.size + 1 + 1, 0, none⟩) 4 4) [x0, x1, x2, x3] (by rfl) (HLast.out _ _ _ _ hg3) (by simp; omega) (by have := hg3.size; simp at this; omega) ?_; intro v4 w4 hown4 hg4))
  go_wp2
  go_ret
  refine ⟨_, rfl, ?_, ?_⟩
  · rw [HG.out]
    exact hown4
  · have h4 := up_dr (up_al (up_al (up_al (up_al (Below.refl w1.heap.size w1) (.cells #[.int .u8 x0, .int .u8 x1, .int .u8 x2, .int .u8 x3] 241)) (.cells #[.int .u8 x0, .int .u8 x1, .int .u8 x2, .int .u8 x3] 241)) (.cells #[.int .u8 x0, .int .u8 x1, .int .u8 x2, .int .u8 x3] 241)) (.cells (madeCells #[.int .u8 0] (l.length + 4)) 5))
    refine (h4.grown hg3 h4.size ?_).grown hg4 (Nat.le_trans h4.size hg3.size) (fun k hk => (hown3.lt k hk).1)
    intro k hk
    simp [Value.ownBlock] at hk
    omega
end Go.Proofs.YtnchjlimkgbfpaaGreatDoor

namespace Go.Proofs.YtnchjlimkgbfpaaGreatDoor
open Go.RowKit SumPlain
set_option linter.unusedVariables false
set_option maxRecDepth 20000
end Go.Proofs.YtnchjlimkgbfpaaGreatDoor

namespace Go.Proofs.YtnchjlimkgbfpaaGreatDoor
open Go.RowKit SumPlain
set_option linter.unusedVariables false
set_option maxRecDepth 20000
theorem OwnB.mono {w : World} {base base' : Nat} {v : Value} {l : List Int} (h : OwnB w base v l) (hb : base' ≤ base) : OwnB w base' v l := by
  obtain ⟨h1, h2⟩ := h
  refine ⟨h1, ?_⟩
  rcases h2 with h0 | ⟨g, cap, cur, rfl, hg, r⟩
  · exact .inl h0
  · exact .inr ⟨g, cap, cur, rfl, Nat.le_trans hb hg, r⟩
set_option maxHeartbeats 1000000 in
theorem refGuard_any (l : List Int) (v : Value) (w : World) (hv : Octs w v l) (hl : l.length ≤ 140737488351232) :
    Calls Tryz.prog 84 #[v] w fun e w' => ∃ v', e = .returned v' ∧ OwnB w' w.heap.size v' (guardOf l) ∧ Below w.heap.size w w' := by
  have HV : Hid (Octs w v l) := hv
  clear hv
  go_enter Tryz.func84, Tryz.ntmps84
  go_wp2_with fail
  refine (refSum_any l _ _ HV.out).mono ?_
  rintro e w1 ⟨rfl, rfl⟩
  go_wp2_with fail
  refine (copied_any l _ _ HV.out (by omega)).mono ?_
  rintro e w2 ⟨v2, rfl, hown2, hb2⟩
  have HOwn2 : Hid (OwnB w2 w1.heap.size v2 l) := hown2
  have hs2 := hb2.size
  have HG : Hid (guardOf l = l ++ lastL (ext ones l)) := rfl
  clear hown2
  generalize ext ones l = c at *
  have hu := u32_of c
  have H0 : Hid ((c.toNat : Int) / 16777216 = (c.toNat : Int) / 16777216 % 256) := by unfold Hid; omega
  go_wp2_with (at_builtin; refine wpList_append_lits _ rfl _ _ rfl w1.heap.size _ l rfl HOwn2.out (lastL c) 4 _ rfl rfl ?cs ?c1 ?c2 ?c3 ?_)
  try case cs => (unfold lastL; rw [← H0.out]; rfl)
  try case c1 => exact lastL_octet c
  try case c2 => (rw [lastL_len]; omega)
  try case c3 => exact hs2
  intro v3 w3 hown3 hb3
  go_wp2
  go_ret
  refine ⟨_, rfl, ?_, ?_⟩
  · rw [HG.out]; exact hown3
  · exact hb2.trans hb3
theorem own_len {w : World} {base : Nat} {v : Value} {l : List Int} (h : OwnB w base v l) : ∃ a cap, v = .slice a l.length cap ∧ l.length ≤ cap := by
  obtain ⟨_, h⟩ := h
  rcases h with ⟨rfl, h0⟩ | ⟨g, cap, cur, rfl, _, _, hn, _⟩
  · exact ⟨none, 0, by rw [h0], by omega⟩
  · exact ⟨_, cap, rfl, hn⟩
end Go.Proofs.YtnchjlimkgbfpaaGreatDoor
