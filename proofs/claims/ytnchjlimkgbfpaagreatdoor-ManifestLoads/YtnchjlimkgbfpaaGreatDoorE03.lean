/- The texts HEnv, LBase, EMath, VLeaf, in this order. -/
import Derived.Test.YtnchjlimkgbfpaaGreatDoorRows
import Derived.Test.YtnchjlimkgbfpaaGreatDoorE02
import Derived.Stop.LaidErr
import Derived.Lib.LaidTab
import Derived.LaidLaws
import Derived.RowKitTokens
import Derived.JoinedAt
import Derived.JoinedOf
import Derived.ChangeVars
import Derived.ChangeSame
import Derived.ChangeMaps5
import Derived.Test.YtnchjlimkgbfpaaGreatDoorE01
import Derived.WalkKit
import Derived.WalkLawsBesides
import Derived.WalkSpells
import Derived.Lib.Tables
import Derived.KernelRfl

namespace Go.Proofs.YtnchjlimkgbfpaaGreatDoor
open Go.RowKit
set_option linter.unusedVariables false
set_option maxRecDepth 20000
theorem gES : Tryz.prog.globalNamed "strconv.ErrSyntax" = some 0 := by kernel_rfl
theorem gER : Tryz.prog.globalNamed "strconv.ErrRange" = some 1 := by kernel_rfl
theorem gPT : Tryz.prog.globalNamed "internal/strconv.uint64pow10" = some 2 := by kernel_rfl
theorem gESt : (Tryz.prog.globals[0]?).map (·.type) = some 163 := by kernel_rfl
theorem gERt : (Tryz.prog.globals[1]?).map (·.type) = some 163 := by kernel_rfl
theorem gPTt : (Tryz.prog.globals[2]?).map (·.type) = some 289 := by kernel_rfl
theorem cells125 : Tryz.prog.cellsOf 297 = 1 := by kernel_rfl
theorem cells9 : Tryz.prog.cellsOf 9 = 1 := by kernel_rfl
theorem cells86 : Tryz.prog.cellsOf 156 = 1 := by kernel_rfl
theorem cells117 : Tryz.prog.cellsOf 289 = 20 := by kernel_rfl
theorem starE : "*" ++ "errors.errorString" = "*errors.errorString" := by decide
theorem row123 (u : TypeId) (h : Tryz.prog.typeName? 3 u = some "*errors.errorString") : u = 295 :=
  typeName_ptr_named (nm := "errors.errorString") (by rw [starE]; kernel_rfl) (by kernel_rfl) (by decide) u (by rw [starE]; exact h)
def laidL : List (String × DataW Unit) := [("math/bits.deBruijn32tab", Rows.laid_math_bits_deBruijn32tab), ("math/bits.deBruijn64tab", Rows.laid_math_bits_deBruijn64tab), ("internal/strconv.uint64pow10", Rows.laid_internal_strconv_uint64pow10), ("strconv.ErrRange", Rows.laid_strconv_ErrRange), ("strconv.ErrSyntax", Rows.laid_strconv_ErrSyntax)]
theorem env_of {W : World} (h : laidMet Tryz.prog laidL W) : EnvL W := by
  have h3 := h.tail.tail
  have ht : Lib.TabIs Tryz.prog W "internal/strconv.uint64pow10" .u64 Lib.pow10Tab := Lib.tabIs_of_head gPT gPTt Tryz.underlying289 Tryz.underlying156 cells86 cells117 h3
  obtain ⟨a1, s1, hv1, -, -, -⟩ := laid_sentinel h3.tail gER gERt Tryz.underlying163 row123 Tryz.underlying295 Tryz.underlying297 rfl rfl Tryz.underlying9 cells125 cells9
  obtain ⟨a0, s0, hv0, -, -, -⟩ := laid_sentinel h3.tail.tail gES gESt Tryz.underlying163 row123 Tryz.underlying295 Tryz.underlying297 rfl rfl Tryz.underlying9 cells125 cells9
  have c0 : W.cell? ⟨0, 0, none⟩ = some (.iface 295 (.pointer (some a0))) := by have h0 := World.var?_cell gES hv0 0; simpa using h0
  have c1 : W.cell? ⟨1, 0, none⟩ = some (.iface 295 (.pointer (some a1))) := by have h0 := World.var?_cell gER hv1 0; simpa using h0
  refine ⟨Lib.tabBelow_of_tabIs ht, _, _, _, _, c0, c1, ?_⟩
  have := World.block_lt_of_cell? W _ c1
  simp at this
  omega
noncomputable def low : Nat := (World.holding Tryz.prog default ⟨#[], #[], []⟩).heap.size
def d32 : List Int := [0, 1, 28, 2, 29, 14, 24, 3, 30, 22, 20, 15, 25, 17, 4, 8, 31, 27, 13, 23, 21, 19, 16, 7, 26, 12, 18, 6, 11, 5, 10, 9]
def d64 : List Int := [0, 1, 56, 2, 57, 49, 28, 3, 61, 58, 42, 50, 38, 29, 17, 4, 62, 47, 59, 36, 45, 43, 51, 22, 53, 39, 33, 30, 24, 18, 12, 5, 63, 55, 48, 27, 60, 41, 37, 16, 46, 35, 44, 21, 52, 32, 23, 11, 54, 26, 40, 15, 34, 20, 31, 10, 25, 14, 19, 9, 13, 8, 7, 6]
def synS : ByteArray := { data := #[105, 110, 118, 97, 108, 105, 100, 32, 115, 121, 110, 116, 97, 120] }
def rngS : ByteArray := { data := #[118, 97, 108, 117, 101, 32, 111, 117, 116, 32, 111, 102, 32, 114, 97, 110, 103, 101] }
noncomputable def laidWorld (os : Os) : World :=
  let w0 := World.holding Tryz.prog os ⟨#[.cells #[.string synS] 297, .cells #[.string rngS] 297], #[], []⟩
  let put (h : Array Obj) (g : Nat) (cs : Array Value) : Array Obj := h.modify g fun
    | .cells _ t frozen => .cells cs t frozen
    | o => o
  let h0 := put (put w0.heap 0 #[.iface 295 (.pointer (some ⟨low, 0, none⟩))]) 1 #[.iface 295 (.pointer (some ⟨low + 1, 0, none⟩))]
  let h1 := put h0 2 (Lib.pow10Tab.map fun z => Value.int .u64 z).toArray
  let h2 := put h1 4 (d32.map fun z => Value.int .u8 z).toArray
  let h3 := put h2 5 (d64.map fun z => Value.int .u8 z).toArray
  { w0 with heap := h3 }
set_option maxRecDepth 100000 in
theorem laidWorld_met (os : Os) (args : Array Value) : laidMet Tryz.prog laidL ((laidWorld os).forCall (fun _ _ => 0) ⟨#[], args, []⟩).memory :=
  laidMet_of_run' 8 (by kernel_rfl) (by kernel_rfl)
end Go.Proofs.YtnchjlimkgbfpaaGreatDoor

namespace Go.Proofs.YtnchjlimkgbfpaaGreatDoor
open Go.RowKit
set_option linter.unusedVariables false
set_option maxRecDepth 20000
end Go.Proofs.YtnchjlimkgbfpaaGreatDoor

namespace Go.Proofs.YtnchjlimkgbfpaaGreatDoor
open Go.RowKit
set_option linter.unusedVariables false
set_option maxRecDepth 20000
set_option linter.unusedSimpArgs false
theorem bl_selfM : ∀ l : List UInt8, Op.bytesLess l l = false
  | [] => rfl
  | x :: l => by simp [Op.bytesLess, bl_selfM l]
theorem bl_transM : ∀ a b c : List UInt8, Op.bytesLess a b = true → Op.bytesLess b c = true → Op.bytesLess a c = true
  | _, [], _, h, _ => by simp [Op.bytesLess] at h
  | _, _ :: _, [], _, h => by simp [Op.bytesLess] at h
  | [], _ :: _, _ :: _, _, _ => by simp [Op.bytesLess]
  | x :: a, y :: b, z :: c, h, k => by
    simp only [Op.bytesLess, Bool.or_eq_true, decide_eq_true_eq, Bool.and_eq_true, beq_iff_eq] at h k ⊢
    rcases h with h | ⟨rfl, h⟩
    · rcases k with k | ⟨rfl, k⟩
      · exact .inl (UInt8.lt_trans h k)
      · exact .inl h
    · rcases k with k | ⟨rfl, k⟩
      · exact .inl k
      · exact .inr ⟨rfl, bl_transM a b c h k⟩
theorem bl_totalM : ∀ a b : List UInt8, Op.bytesLess a b = false → Op.bytesLess b a = false → a = b
  | [], [], _, _ => rfl
  | [], _ :: _, h, _ => by simp [Op.bytesLess] at h
  | _ :: _, [], _, h => by simp [Op.bytesLess] at h
  | x :: a, y :: b, h, k => by
    simp only [Op.bytesLess, Bool.or_eq_false_iff, decide_eq_false_iff_not, Bool.and_eq_false_iff, beq_eq_false_iff_ne] at h k
    have e : x = y := UInt8.le_antisymm (UInt8.not_lt.1 k.1) (UInt8.not_lt.1 h.1)
    subst e
    have h2 : Op.bytesLess a b = false := by rcases h.2 with q | q; exact absurd rfl q; exact q
    have k2 : Op.bytesLess b a = false := by rcases k.2 with q | q; exact absurd rfl q; exact q
    rw [bl_totalM a b h2 k2]
structure Me where
  id : Int
  lvl : Int
  cnt : Int
  low : ByteArray
  high : ByteArray
instance : Inhabited Me := ⟨⟨0, 0, 0, ⟨#[]⟩, ⟨#[]⟩⟩⟩
def meV (m : Me) : Value := .agg #[.int .i64 m.id, .int .i64 m.lvl, .int .i64 m.cnt, .string m.low, .string m.high]
def meRow (m : Me) : List Value := [.int .i64 m.id, .int .i64 m.lvl, .int .i64 m.cnt, .string m.low, .string m.high]
def keyM (s : ByteArray) : Bool := decide (1 ≤ (s.size : Int) ∧ (s.size : Int) ≤ 96)
def leM (s t : ByteArray) : Bool := Op.bytesLess s.toList t.toList || (s.toList == t.toList)
def mayM (m : Me) : Bool := decide (1 ≤ m.id ∧ m.id ≤ 2147483647 ∧ 0 ≤ m.lvl ∧ m.lvl ≤ 3 ∧ 1 ≤ m.cnt ∧ m.cnt ≤ 4096) && (keyM m.low && (keyM m.high && leM m.low m.high))
def befM (a b : Me) : Bool := if a.lvl = b.lvl then (if a.lvl = 0 then decide (b.id < a.id) else Op.bytesLess a.low.toList b.low.toList) else decide (a.lvl < b.lvl)
def okM (next : Int) (ahead : List Me) (m : Me) : Bool :=
  mayM m && (decide (m.id < next) && ((match ahead.getLast? with | none => true | some p => befM p m && !(decide (0 < m.lvl) && (decide (p.lvl = m.lvl) && leM m.low p.high))) && ahead.all (fun p => decide (p.id ≠ m.id))))
def allM (next : Int) : List Me → List Me → Bool
  | _, [] => true
  | ahead, m :: r => okM next ahead m && allM next (ahead ++ [m]) r
def chkV (ts : List Me) (seq next : Int) : Bool := decide (ts.length ≤ 256 ∧ 1 ≤ next ∧ next ≤ 2147483647 ∧ 0 ≤ seq ∧ seq ≤ 1099511627776) && allM next [] ts
def errV (ts : List Me) (seq next : Int) : Int := if chkV ts seq next = true then 0 else 9
def dropM (id : Int) (ts : List Me) : List Me := ts.filter (fun m => decide (m.id ≠ id))
def dropsM : List Int → List Me → Option (List Me)
  | [], ts => some ts
  | i :: r, ts => if (dropM i ts).length = ts.length then none else dropsM r (dropM i ts)
def putM (m : Me) : List Me → List Me
  | [] => [m]
  | x :: r => if befM x m = true then x :: putM m r else m :: x :: r
def putsM : List Me → List Me → List Me
  | [], ts => ts
  | m :: r, ts => putsM r (putM m ts)
def appM (ts : List Me) (seq next : Int) (drop : List Int) (add : List Me) (seq' next' : Int) : List Me × Int :=
  if chkV ts seq next = true then
    (match dropsM drop ts with
     | none => ([], 71)
     | some l => if seq' < seq ∨ next' < next then ([], 4) else if 256 < add.length then ([], 9) else if chkV (putsM add l) seq' next' = true then (putsM add l, 0) else ([], 9))
  else ([], 9)
theorem allM_at (next : Int) : ∀ (r ahead : List Me), allM next ahead r = true → ∀ k m, r[k]? = some m → okM next (ahead ++ r.take k) m = true
  | [], ahead, h, k, m, hk => by simp at hk
  | x :: r, ahead, h, 0, m, hk => by
    simp at hk
    subst hk
    simp only [allM, Bool.and_eq_true] at h
    simpa using h.1
  | x :: r, ahead, h, k + 1, m, hk => by
    simp only [allM, Bool.and_eq_true] at h
    have := allM_at next r (ahead ++ [x]) h.2 k m (by simpa using hk)
    simpa using this
theorem allM_of (next : Int) : ∀ (r ahead : List Me), (∀ k m, r[k]? = some m → okM next (ahead ++ r.take k) m = true) → allM next ahead r = true
  | [], ahead, h => rfl
  | x :: r, ahead, h => by
    simp only [allM, Bool.and_eq_true]
    refine ⟨by simpa using h 0 x rfl, allM_of next r _ (fun k m hk => ?_)⟩
    have := h (k + 1) m (by simpa using hk)
    simpa using this
theorem putM_len (m : Me) : ∀ ts, (putM m ts).length = ts.length + 1
  | [] => rfl
  | x :: r => by
    rw [putM]
    by_cases h : befM x m = true
    · rw [if_pos h, List.length_cons, putM_len m r]; rfl
    · rw [if_neg h]; rfl
theorem befM_trans {a b c : Me} (h1 : befM a b = true) (h2 : befM b c = true) : befM a c = true := by
  unfold befM at *
  by_cases e1 : a.lvl = b.lvl
  · rw [if_pos e1] at h1
    by_cases e2 : b.lvl = c.lvl
    · rw [if_pos e2] at h2
      rw [if_pos (e1.trans e2)]
      by_cases z : a.lvl = 0
      · rw [if_pos z] at h1 ⊢
        rw [if_pos (e1 ▸ z)] at h2
        simp only [decide_eq_true_eq] at *
        omega
      · rw [if_neg z] at h1 ⊢
        rw [if_neg (e1 ▸ z)] at h2
        exact bl_transM _ _ _ h1 h2
    · rw [if_neg e2] at h2
      rw [if_neg (by rw [e1]; exact e2)]
      rw [e1]; exact h2
  · rw [if_neg e1] at h1
    simp only [decide_eq_true_eq] at h1
    by_cases e2 : b.lvl = c.lvl
    · rw [if_neg (by omega)]
      simp only [decide_eq_true_eq]
      omega
    · rw [if_neg e2] at h2
      simp only [decide_eq_true_eq] at h2
      rw [if_neg (by omega)]
      simp only [decide_eq_true_eq]
      omega
theorem chk_asc {next : Int} {ts : List Me} (h : allM next [] ts = true) : ∀ (k : Nat) (m : Me), ts[k]? = some m → ∀ x ∈ ts.take k, befM x m = true := by
  intro k
  induction k with
  | zero => intro m _ x hx; simp at hx
  | succ k ih =>
    intro m hm x hx
    have hk : k < ts.length := by have := (List.getElem?_eq_some_iff.1 hm).1; omega
    have hy : ts[k]? = some ts[k] := List.getElem?_eq_getElem hk
    generalize ts[k] = y at hy
    have hok := allM_at next ts [] h (k + 1) m hm
    rw [List.nil_append, List.take_add_one, hy] at hok
    unfold okM at hok
    simp only [Option.toList_some, List.getLast?_append, List.getLast?_singleton, Option.some_or, Bool.and_eq_true] at hok
    have hb : befM y m = true := hok.2.2.1.1
    rw [List.take_add_one, hy] at hx
    rcases List.mem_append.1 hx with q | q
    · exact befM_trans (ih y hy x q) hb
    · simp at q; rw [q]; exact hb
theorem leM_not {s t : ByteArray} : leM s t = false ↔ Op.bytesLess t.toList s.toList = true := by
  unfold leM
  constructor
  · intro h
    simp only [Bool.or_eq_false_iff, beq_eq_false_iff_ne] at h
    cases q : Op.bytesLess t.toList s.toList
    · exact absurd (bl_totalM _ _ h.1 q) h.2
    · rfl
  · intro h
    simp only [Bool.or_eq_false_iff, beq_eq_false_iff_ne]
    refine ⟨?_, fun e => ?_⟩
    · cases q : Op.bytesLess s.toList t.toList
      · rfl
      · have := bl_transM _ _ _ q h
        rw [bl_selfM] at this
        cases this
    · rw [e, bl_selfM] at h
      cases h
theorem leM_lt {a b c : ByteArray} (h1 : leM a b = true) (h2 : Op.bytesLess b.toList c.toList = true) : Op.bytesLess a.toList c.toList = true := by
  unfold leM at h1
  simp only [Bool.or_eq_true, beq_iff_eq] at h1
  rcases h1 with h1 | h1
  · exact bl_transM _ _ _ h1 h2
  · rw [h1]; exact h2
end Go.Proofs.YtnchjlimkgbfpaaGreatDoor

namespace Go.Proofs.YtnchjlimkgbfpaaGreatDoor
open Go.RowKit
def bl (n : Int) : Int := (bitLen n.toNat : Int)
theorem bl_table : ∀ n : Fin 256, Lib.len8 (n.val : Int) = (bitLen n.val : Int) := by decide +kernel
theorem bl_len8 (n : Int) (h0 : 0 ≤ n) (h1 : n ≤ 255) : Lib.len8 n = bl n := by
  have := bl_table ⟨n.toNat, by omega⟩
  unfold bl
  rw [← this]
  congr 1
  show n = ((n.toNat : Nat) : Int)
  omega
theorem bl_shift (n : Int) (b : Nat) (h0 : 0 ≤ n) (h : (2 : Int) ^ b ≤ n) : bl n = b + bl (n / 2 ^ b) := by
  obtain ⟨x, rfl⟩ := Int.eq_ofNat_of_zero_le h0
  have e : ((x : Int) / 2 ^ b).toNat = x / 2 ^ b := by
    have : ((x : Int) / 2 ^ b) = ((x / 2 ^ b : Nat) : Int) := by simp
    rw [this]; rfl
  have hx : 2 ^ b ≤ x := by exact_mod_cast h
  have hd : x / 2 ^ b ≠ 0 := by
    have := Nat.div_pos hx (Nat.two_pow_pos b)
    omega
  unfold bl
  rw [e, Int.toNat_natCast, bitLen_shift x b hd]
  omega
theorem len8_bd (n : Int) (h0 : 0 ≤ n) (h1 : n ≤ 255) : 0 ≤ Lib.len8 n ∧ Lib.len8 n ≤ 8 := by
  rw [bl_len8 n h0 h1]
  have := bitLen_le8 n.toNat (by omega)
  unfold bl
  omega
theorem len8_any (n : Int) (w : World) (h0 : 0 ≤ n) (h1 : n ≤ 255) :
    Calls Tryz.prog 194 #[.int .u8 n] w fun e w' => e = .returned (.int .i64 (bl n)) ∧ w' = w := by
  have H : Hid (Lib.len8 n = bl n) := bl_len8 n h0 h1
  obtain ⟨b0, b1⟩ := len8_bd n h0 h1
  go_enter Tryz.func194, Tryz.ntmps194
  go_wp2
  go_ret
  exact ⟨ret_int (by rw [H.out]), rfl⟩
theorem bl_road (n x : Int) (b : Nat) (h0 : 0 ≤ n) (hb : b = 0 ∨ (2 : Int) ^ b ≤ n) (hx : x = n / 2 ^ b) (h1 : x ≤ 255) : (b : Int) + Lib.len8 x = bl n := by
  have hx0 : 0 ≤ x := by
    rw [hx]; exact Int.ediv_nonneg h0 (Int.le_of_lt (Int.pow_pos (by decide)))
  rw [bl_len8 x hx0 h1, hx]
  rcases hb with rfl | hb
  · simp
  · exact (bl_shift n b h0 hb).symm
set_option maxHeartbeats 400000 in
theorem len64_any (n : Int) (w : World) (h0 : 0 ≤ n) (h1 : n ≤ 18446744073709551615) :
    Calls Tryz.prog 158 #[.int .u64 n] w fun e w' => e = .returned (.int .i64 (bl n)) ∧ w' = w := by
  by_cases c1 : 4294967296 ≤ n
  · by_cases c2 : 65536 ≤ n / 4294967296
    · by_cases c3 : 256 ≤ n / 4294967296 / 65536
      · have q0 : 0 ≤ n / 4294967296 / 65536 / 256 := by omega
        have q1 : n / 4294967296 / 65536 / 256 ≤ 255 := by omega
        obtain ⟨b0, b1⟩ := len8_bd _ q0 q1
        have H : Hid (((56 : Nat) : Int) + Lib.len8 (n / 4294967296 / 65536 / 256) = bl n) := bl_road n _ 56 h0 (.inr (by omega)) (by omega) q1
        go_enter Tryz.func158, Tryz.ntmps158
        go_wp2
        go_ret
        exact ⟨ret_int H.out, rfl⟩
      · have q0 : 0 ≤ n / 4294967296 / 65536 := by omega
        have q1 : n / 4294967296 / 65536 ≤ 255 := by omega
        obtain ⟨b0, b1⟩ := len8_bd _ q0 q1
        have H : Hid (((48 : Nat) : Int) + Lib.len8 (n / 4294967296 / 65536) = bl n) := bl_road n _ 48 h0 (.inr (by omega)) (by omega) q1
        go_enter Tryz.func158, Tryz.ntmps158
        go_wp2
        go_ret
        exact ⟨ret_int H.out, rfl⟩
    · by_cases c3 : 256 ≤ n / 4294967296
      · have q0 : 0 ≤ n / 4294967296 / 256 := by omega
        have q1 : n / 4294967296 / 256 ≤ 255 := by omega
        obtain ⟨b0, b1⟩ := len8_bd _ q0 q1
        have H : Hid (((40 : Nat) : Int) + Lib.len8 (n / 4294967296 / 256) = bl n) := bl_road n _ 40 h0 (.inr (by omega)) (by omega) q1
        go_enter Tryz.func158, Tryz.ntmps158
        go_wp2
        go_ret
        exact ⟨ret_int H.out, rfl⟩
      · have q0 : 0 ≤ n / 4294967296 := by omega
        have q1 : n / 4294967296 ≤ 255 := by omega
        obtain ⟨b0, b1⟩ := len8_bd _ q0 q1
        have H : Hid (((32 : Nat) : Int) + Lib.len8 (n / 4294967296) = bl n) := bl_road n _ 32 h0 (.inr (by omega)) (by omega) q1
        go_enter Tryz.func158, Tryz.ntmps158
        go_wp2
        go_ret
        exact ⟨ret_int H.out, rfl⟩
  · by_cases c2 : 65536 ≤ n
    · by_cases c3 : 256 ≤ n / 65536
      · have q0 : 0 ≤ n / 65536 / 256 := by omega
        have q1 : n / 65536 / 256 ≤ 255 := by omega
        obtain ⟨b0, b1⟩ := len8_bd _ q0 q1
        have H : Hid (((24 : Nat) : Int) + Lib.len8 (n / 65536 / 256) = bl n) := bl_road n _ 24 h0 (.inr (by omega)) (by omega) q1
        go_enter Tryz.func158, Tryz.ntmps158
        go_wp2
        go_ret
        exact ⟨ret_int H.out, rfl⟩
      · have q0 : 0 ≤ n / 65536 := by omega
        have q1 : n / 65536 ≤ 255 := by omega
        obtain ⟨b0, b1⟩ := len8_bd _ q0 q1
        have H : Hid (((16 : Nat) : Int) + Lib.len8 (n / 65536) = bl n) := bl_road n _ 16 h0 (.inr (by omega)) (by omega) q1
        go_enter Tryz.func158, Tryz.ntmps158
        go_wp2
        go_ret
        exact ⟨ret_int H.out, rfl⟩
    · by_cases c3 : 256 ≤ n
      · have q0 : 0 ≤ n / 256 := by omega
        have q1 : n / 256 ≤ 255 := by omega
        obtain ⟨b0, b1⟩ := len8_bd _ q0 q1
        have H : Hid (((8 : Nat) : Int) + Lib.len8 (n / 256) = bl n) := bl_road n _ 8 h0 (.inr (by omega)) (by omega) q1
        go_enter Tryz.func158, Tryz.ntmps158
        go_wp2
        go_ret
        exact ⟨ret_int H.out, rfl⟩
      · have q1 : n ≤ 255 := by omega
        obtain ⟨b0, b1⟩ := len8_bd _ h0 q1
        have H : Hid (((0 : Nat) : Int) + Lib.len8 n = bl n) := bl_road n _ 0 h0 (.inl rfl) (by simp) q1
        go_enter Tryz.func158, Tryz.ntmps158
        go_wp2
        go_ret
        exact ⟨ret_int (by simpa using H.out), rfl⟩
theorem bl_nonneg (n : Int) : 0 ≤ bl n := by unfold bl; omega
theorem bl_le8 (n : Int) (h0 : 0 ≤ n) (h1 : n ≤ 255) : bl n ≤ 8 := by
  have := bitLen_le8 n.toNat (by omega)
  unfold bl
  omega
theorem lz8_any (n : Int) (w : World) (h0 : 0 ≤ n) (h1 : n ≤ 255) :
    Calls Tryz.prog 171 #[.int .u8 n] w fun e w' => e = .returned (.int .i64 (8 - bl n)) ∧ w' = w := by
  have b0 := bl_nonneg n
  have b1 := bl_le8 n h0 h1
  go_enter Tryz.func171, Tryz.ntmps171
  go_wp2_with (go_at_call 194; refine (len8_any _ _ (by omega) (by omega)).mono ?_; rintro e w' ⟨rfl, rfl⟩)
  go_ret
  exact ⟨rfl, rfl⟩
def toldOf (f : Int) : Int := 9 - bl (255 - f)
def leadOf (k : Int) : Int := 255 - 255 / 2 ^ (k - 1).toNat
theorem not_u8 (f : Int) (h0 : 0 ≤ f) (h1 : f ≤ 255) : bits .xor .u8 IntKind.u8.max f = 255 - f := by
  have : ∀ x : Fin 256, bits .xor .u8 IntKind.u8.max (x.val : Int) = 255 - (x.val : Int) := by decide +kernel
  have h := this ⟨f.toNat, by omega⟩
  have e : ((f.toNat : Nat) : Int) = f := by omega
  rw [show ((⟨f.toNat, by omega⟩ : Fin 256).val : Int) = f from e] at h
  exact h
theorem told_any (f : Int) (w : World) (h0 : 0 ≤ f) (h1 : f ≤ 255) :
    Calls Tryz.prog 133 #[.int .u8 f] w fun e w' => e = .returned (.int .i64 (toldOf f)) ∧ w' = w := by
  have b0 := bl_nonneg (255 - f)
  have b1 := bl_le8 (255 - f) (by omega) (by omega)
  have hx := not_u8 f h0 h1
  go_enter Tryz.func133, Tryz.ntmps133
  go_wp2_with fail
  refine (lz8_any (255 - f) _ (by omega) (by omega)).mono ?_
  rintro e w' ⟨rfl, rfl⟩
  go_wp2
  go_ret
  exact ⟨ret_int (by unfold toldOf; omega), rfl⟩
theorem lead_any (k : Int) (w : World) (h0 : 1 ≤ k) (h1 : k ≤ 9) :
    Calls Tryz.prog 134 #[.int .i64 k] w fun e w' => e = .returned (.int .u8 (leadOf k)) ∧ w' = w := by
  have hk : k = 1 ∨ k = 2 ∨ k = 3 ∨ k = 4 ∨ k = 5 ∨ k = 6 ∨ k = 7 ∨ k = 8 ∨ k = 9 := by omega
  rcases hk with rfl | rfl | rfl | rfl | rfl | rfl | rfl | rfl | rfl
  all_goals
    go_enter Tryz.func134, Tryz.ntmps134
    go_wp2
    go_ret
    exact ⟨ret_int (by decide +kernel), rfl⟩
def sizeOf (n : Int) : Int := min (max ((bl n + 6) / 7) 1) 9
theorem bl_le64 (n : Int) (h0 : 0 ≤ n) (h1 : n ≤ 18446744073709551615) : bl n ≤ 64 := by
  unfold bl bitLen
  split
  · omega
  · rename_i h
    have := (Nat.log2_lt h).2 (show n.toNat < 2 ^ 64 by omega)
    omega
theorem size_any (n : Int) (w : World) (h0 : 0 ≤ n) (h1 : n ≤ 18446744073709551615) :
    Calls Tryz.prog 122 #[.int .u64 n] w fun e w' => e = .returned (.int .i64 (sizeOf n)) ∧ w' = w := by
  have b0 := bl_nonneg n
  have b1 := bl_le64 n h0 h1
  go_enter Tryz.func122, Tryz.ntmps122
  go_wp2_with (go_at_call 158; refine (len64_any n _ h0 h1).mono ?_; rintro e w' ⟨rfl, rfl⟩)
  all_goals
    go_ret
    exact ⟨ret_int (by unfold sizeOf; omega), rfl⟩
end Go.Proofs.YtnchjlimkgbfpaaGreatDoor
