/- The texts BMay, BIter, BRange, BHas, in this order. -/
import Derived.Test.YtekoniaobmapdaaGreatG17
import Derived.RangeFuncNested
import Derived.RangeFuncBound
import Derived.RangeFuncCalls
import Derived.RangeFuncLeaves
import Derived.Shelf.Abstract
import Derived.Shelf.RegionOpen
import Derived.OwnWalkIn
import Derived.TacticsInMore
import Derived.LoopNIn
import Derived.LoopIn

/- Whether a filter may be: the program's and the document's; a key's places. -/
namespace Go.Proofs.YtekoniaobmapdaaGreat
open Go.RowKit
set_option linter.unusedVariables false
set_option maxRecDepth 20000

def mayB (k : Int) (n : Nat) : Bool := decide (1 ≤ k) && (decide (k ≤ 8) && (decide (1 ≤ n) && decide (n ≤ 8192)))

theorem mayBe_any (k : Int) (a : Option Addr) (n c : Nat) (w : World) :
    Calls Tryz.prog 71 #[.agg #[.int .i64 k, .slice a n c]] w fun e w' => e = .returned (.bool (mayB k n)) ∧ w' = w.alloc (.cells #[.int .i64 k, .slice a n c] 32) := by
  go_enter Tryz.func71, Tryz.ntmps71
  by_cases c1 : 1 ≤ k
  · by_cases c2 : k ≤ 8
    · by_cases c3 : 1 ≤ n
      · have c3' : (1 : Int) ≤ (n : Int) := by omega
        by_cases c4 : n ≤ 8192
        · have c4' : (n : Int) ≤ 8192 := by omega
          have HM : Hid (true = mayB k n) := by unfold Hid mayB; simp [c1, c2, c3, c4]
          go_wp2
          go_ret
          exact ⟨ret_bool HM.out, rfl⟩
        · have c4' : ¬ (n : Int) ≤ 8192 := by omega
          have HM : Hid (false = mayB k n) := by unfold Hid mayB; simp [c4]
          go_wp2
          go_ret
          exact ⟨ret_bool HM.out, rfl⟩
      · have c3' : ¬ (1 : Int) ≤ (n : Int) := by omega
        have HM : Hid (false = mayB k n) := by unfold Hid mayB; simp [c3]
        go_wp2
        go_ret
        exact ⟨ret_bool HM.out, rfl⟩
    · have HM : Hid (false = mayB k n) := by unfold Hid mayB; simp [c2]
      go_wp2
      go_ret
      exact ⟨ret_bool HM.out, rfl⟩
  · have HM : Hid (false = mayB k n) := by unfold Hid mayB; simp [c1]
    go_wp2
    go_ret
    exact ⟨ret_bool HM.out, rfl⟩

/-- What the document answers. -/
def chkE (k : Int) (n : Nat) : Int := if mayB k n then 0 else 9

theorem check_anyB (k : Int) (a : Option Addr) (n c : Nat) (w : World) :
    Calls Tryz.prog 52 #[.agg #[.int .i64 k, .slice a n c]] w fun e w' => e = .returned (.int .i64 (chkE k n)) ∧ w' = w.alloc (.cells #[.int .i64 k, .slice a n c] 37) := by
  go_enter Tryz.func52, Tryz.ntmps52
  by_cases c1 : k < 1
  · have HM : Hid ((9 : Int) = chkE k n) := by unfold Hid chkE mayB; simp; omega
    go_wp2
    go_ret
    exact ⟨ret_int HM.out, rfl⟩
  · by_cases c2 : 8 < k
    · have HM : Hid ((9 : Int) = chkE k n) := by unfold Hid chkE mayB; simp; omega
      go_wp2
      go_ret
      exact ⟨ret_int HM.out, rfl⟩
    · by_cases c3 : n < 1
      · have c3' : (n : Int) < 1 := by omega
        have HM : Hid ((9 : Int) = chkE k n) := by unfold Hid chkE mayB; simp; omega
        go_wp2
        go_ret
        exact ⟨ret_int HM.out, rfl⟩
      · have c3' : ¬ (n : Int) < 1 := by omega
        by_cases c4 : 8192 < n
        · have c4' : (8192 : Int) < (n : Int) := by omega
          have HM : Hid ((9 : Int) = chkE k n) := by unfold Hid chkE mayB; simp; omega
          go_wp2
          go_ret
          exact ⟨ret_int HM.out, rfl⟩
        · have c4' : ¬ (8192 : Int) < (n : Int) := by omega
          have HM : Hid ((0 : Int) = chkE k n) := by unfold Hid chkE mayB; rw [if_pos (by simp; omega)]
          go_wp2
          go_ret
          exact ⟨ret_int HM.out, rfl⟩

/-- A key's places: its hash, which of them, how many octets. -/
def lowN (h : Int) : Nat := h.toNat % 4294967296
def highN (h : Int) : Nat := h.toNat / 4294967296 ||| 1
def plc (h : Int) (i n : Nat) : Nat := (lowN h + i * highN h) % (8 * n)

theorem lowN_lt (h : Int) : lowN h ≤ 4294967295 := by unfold lowN; omega
theorem highN_lt {h : Int} (h1 : h ≤ 18446744073709551615) : highN h ≤ 4294967295 := by
  have h2 : h.toNat / 4294967296 < 2 ^ 32 := by omega
  have := Nat.or_lt_two_pow h2 (show 1 < 2 ^ 32 by decide)
  unfold highN
  omega
theorem low_eq {h : Int} (h0 : 0 ≤ h) (h1 : h ≤ 18446744073709551615) : bits .and .u64 h 4294967295 = (lowN h : Int) := by
  rw [u64_and h 4294967295 h0 (by omega) (by omega) (by omega)]
  unfold lowN
  rw [show ((4294967295 : Int).toNat) = 2 ^ 32 - 1 from rfl, Nat.and_two_pow_sub_one_eq_mod]
theorem high_eq {h : Int} (h0 : 0 ≤ h) (h1 : h ≤ 18446744073709551615) : bits .or .u64 (h / 4294967296) 1 = (highN h : Int) := by
  rw [u64_or (h / 4294967296) 1 (by omega) (by omega) (by omega) (by omega)]
  unfold highN
  have e : (h / 4294967296).toNat = h.toNat / 4294967296 := by omega
  rw [e]
  rfl

theorem mul_le {i hi : Nat} (h1 : i ≤ 7) (h2 : hi ≤ 4294967295) : i * hi ≤ 30064771065 := by
  have := Nat.mul_le_mul h1 h2
  omega

theorem wrap_mul {i hi : Nat} (h1 : i ≤ 7) (h2 : hi ≤ 4294967295) : IntKind.u64.wrap ((i : Int) * (hi : Int)) = ((i * hi : Nat) : Int) := by
  have := mul_le h1 h2
  rw [wrap64, ← Int.natCast_mul]
  omega
theorem wrap_add {a b : Nat} (h1 : a ≤ 4294967295) (h2 : b ≤ 30064771065) : IntKind.u64.wrap ((a : Int) + (b : Int)) = ((a + b : Nat) : Int) := by
  rw [wrap64]
  omega

theorem places_any (l : List Int) (hx : OctL l) (hm : l.length ≤ 140737488355328) (k : Int) (a : Option Addr) (n c : Nat) (w : World) :
    Calls Tryz.prog 70 #[.agg #[.int .i64 k, .slice a n c], .string (strOfNums l)] w fun e w' => e = .returned (.func (.func 88) #[] #[.pointer (some ⟨w.heap.size, 0, none⟩), .pointer (some ⟨w.heap.size + 1, 0, none⟩), .pointer (some ⟨w.heap.size + 2, 0, none⟩)]) ∧
      w' = ((w.alloc (.cells #[.int .i64 k, .slice a n c] 32)).alloc (.cells #[.int .u64 (lowN (hashL l))] 59)).alloc (.cells #[.int .u64 (highN (hashL l))] 59) := by
  obtain ⟨z0, z1⟩ := hash_u64 l
  have HC : Hid (∀ w : World, Calls Tryz.prog 87 #[.string (strOfNums l)] w fun e w' => e = .returned (.int .u64 (hashL l)) ∧ w' = w) := fun w => hash_any l hx hm w
  generalize hashL l = h at *
  have e1 := low_eq z0 z1
  have e2 := high_eq z0 z1
  generalize lowN h = lo at *
  generalize highN h = hi at *
  go_enter Tryz.func70, Tryz.ntmps70
  go_wp2_with fail
  refine (HC.out _).mono ?_
  rintro e w1 ⟨rfl, rfl⟩
  go_wp2
  go_ret
  exact ⟨rfl, rfl⟩

set_option maxHeartbeats 400000 in
theorem place_any (l : List Int) (hx : OctL l) (hm : l.length ≤ 140737488355328) (i : Nat) (hi : i ≤ 7) (n : Nat) (hn : 1 ≤ n) (hn2 : n ≤ 8192) (w : World) :
    Calls Tryz.prog 51 #[.string (strOfNums l), .int .i64 i, .int .i64 (8 * (n : Int))] w fun e w' => e = .returned (.int .i64 (plc (hashL l) i n)) ∧ w' = w := by
  obtain ⟨z0, z1⟩ := hash_u64 l
  have HC : Hid (∀ w : World, Calls Tryz.prog 72 #[.string (strOfNums l)] w fun e w' => e = .returned (.int .u64 (hashL l)) ∧ w' = w) := fun w => refHash_any l hx hm w
  generalize hashL l = h at *
  have e1 := low_eq z0 z1
  have e2 := high_eq z0 z1
  have b1 := lowN_lt h
  have b2 := highN_lt z1
  have HP : Hid (plc h i n = (lowN h + i * highN h) % (8 * n)) := rfl
  generalize plc h i n = p at *
  generalize lowN h = lo at *
  generalize highN h = hg at *
  have e3 := wrap_mul hi b2
  have b3 := mul_le hi b2
  generalize i * hg = m at *
  have e4 := wrap_add b1 b3
  have b4 : lo + m ≤ 34359738360 := by omega
  generalize lo + m = s at *
  have b5 : p < 8 * n := by rw [HP.out]; exact Nat.mod_lt _ (by omega)
  have e5 : Int.tmod (s : Int) (8 * (n : Int)) = (p : Int) := by
    rw [HP.out]
    rw [Int.tmod_eq_emod_of_nonneg (by omega), Int.natCast_emod, Int.natCast_mul]
    rfl
  go_enter Tryz.func51, Tryz.ntmps51
  go_wp2_with fail
  refine (HC.out _).mono ?_
  rintro e w1 ⟨rfl, rfl⟩
  go_wp2
  go_ret
  exact ⟨rfl, rfl⟩
end Go.Proofs.YtekoniaobmapdaaGreat

/- The function that hands out a key's places: it calls yield with each of them, in order, until it is told to stop. -/
namespace Go.Proofs.YtekoniaobmapdaaGreat
open Go.RowKit Go.Shelf
set_option linter.unusedVariables false
set_option maxRecDepth 20000
attribute [local go_sem] Oper.semAt_some

/-- A place's bit in its octet. -/
def bitN (p : Nat) : Nat := 2 ^ (p % 8)

theorem bit_le (p : Nat) : bitN p ≤ 128 := by
  unfold bitN
  have h : p % 8 < 8 := Nat.mod_lt _ (by decide)
  generalize p % 8 = j at *
  have : ∀ j, j < 8 → 2 ^ j ≤ 128 := by decide
  exact this j h
theorem bit_eq (p : Nat) : ((bitN p : Nat) : Int) = 2 ^ (p % 8) % 256 := by
  have h := bit_le p
  have e : ((bitN p : Nat) : Int) = (2 : Int) ^ (p % 8) := by unfold bitN; rw [Int.natCast_pow]; rfl
  rw [← e]
  generalize bitN p = x at *
  omega

set_option maxHeartbeats 2000000 in
theorem iter_in (m l Bf : Nat) (K : Nat) (hK8 : K ≤ 8) (h : Int) (h0 : 0 ≤ h) (h1 : h ≤ 18446744073709551615) (a : Option Addr) (n c : Nat) (hn : 1 ≤ n) (hn2 : n ≤ 8192) (J : Nat → World → Prop) (D : World → Prop) (W : World)
    (hY : ∀ (i : Nat) (W0 : World), i < K → J i W0 → YieldAt Fence.wide (m - 1) Tryz.prog l #[.int .i64 ((plc h i n / 8 : Nat) : Int), .int .u8 ((bitN (plc h i n) : Nat) : Int)] W0 fun e W' => (e = .returned (.bool true) ∧ J (i + 1) W') ∨ (e = .returned (.bool false) ∧ D W'))
    (hK : ∀ i W', J i W' → W'.cell? ⟨Bf, 0, none⟩ = some (.int .i64 K) ∧ W'.cell? ⟨Bf, 1, none⟩ = some (.slice a n c) ∧ W'.cell? ⟨Bf + 1, 0, none⟩ = some (.int .u64 (lowN h)) ∧ W'.cell? ⟨Bf + 2, 0, none⟩ = some (.int .u64 (highN h)))
    (hJ : J 0 W) :
    CallsIn Fence.wide m Tryz.prog 88 #[.func (.yield l) #[] #[], .pointer (some ⟨Bf, 0, none⟩), .pointer (some ⟨Bf + 1, 0, none⟩), .pointer (some ⟨Bf + 2, 0, none⟩)] W fun e W' => (∃ v, e = .returned v) ∧ (J K W' ∨ D W') := by
  refine callsIn_of_wp Tryz.func88 rfl trivial ?_ rfl
  simp only [Tryz.ntmps88, List.size_toArray, List.length_cons, List.length_nil, Nat.reduceAdd, Nat.reduceSub, Array.replicate_succ, Array.replicate_zero, List.push_toArray, List.append_toArray, List.nil_append, List.cons_append]
  obtain ⟨k0, k1, k2, k3⟩ := hK 0 W hJ
  gi_wp2
  gi_loopw [9] (fun p wr => ∃ (i : Nat), p = .int .i64 (i : Int) ∧ i ≤ K ∧ Hid (J i wr)) (fun p wr => K - (intOf p).toNat)
  case atStart => exact ⟨0, rfl, Nat.zero_le _, hJ⟩
  case round =>
    obtain ⟨i, rfl, hi, hj⟩ := hrel
    clear k0 k1 k2 k3
    obtain ⟨k0, k1, k2, k3⟩ := hK i wr hj.out
    by_cases hlt : i < K
    · have hlt' : (i : Int) < (K : Int) := by omega
      have hi7 : i ≤ 7 := by omega
      have Y : Hid (YieldAt Fence.wide (m - 1) Tryz.prog l #[.int .i64 ((plc h i n / 8 : Nat) : Int), .int .u8 ((bitN (plc h i n) : Nat) : Int)] wr fun e W' => (e = .returned (.bool true) ∧ J (i + 1) W') ∨ (e = .returned (.bool false) ∧ D W')) := hY i wr hlt hj.out
      clear hY hK
      have b1 := lowN_lt h
      have b2 := highN_lt h1
      have HP : Hid (plc h i n = (lowN h + i * highN h) % (8 * n)) := rfl
      generalize plc h i n = p at *
      generalize lowN h = lo at *
      generalize highN h = hg at *
      have e3 := wrap_mul hi7 b2
      have b3 := mul_le hi7 b2
      generalize i * hg = q at *
      have e4 := wrap_add b1 b3
      have b4 : lo + q ≤ 34359738360 := by omega
      generalize lo + q = s at *
      have b5 : p < 8 * n := by rw [HP.out]; exact Nat.mod_lt _ (by omega)
      have e5 : Int.tmod (s : Int) ((n : Int) * 8) = (p : Int) := by
        rw [HP.out]
        rw [Int.tmod_eq_emod_of_nonneg (by omega), Int.natCast_emod, Int.natCast_mul, Int.mul_comm]
        rfl
      have hb : ((bitN p : Nat) : Int) = 2 ^ (p % 8) % 256 := bit_eq p
      have hd : ((p / 8 : Nat) : Int) = (p : Int) / 8 := by omega
      rw [hb, hd] at Y
      clear hb hd
      obtain ⟨fn, tmps, asg, bod, hy, hR⟩ := Y.out
      clear Y
      gi_wp2
      refine ⟨fun h => (by cases h), hR.mono ?_⟩
      rintro e W3 (⟨rfl, hJ3⟩ | ⟨rfl, hD3⟩)
      · have HJ3 : Hid (J (i + 1) W3) := hJ3
        clear hJ3
        gi_wp2
        exact ⟨⟨i + 1, by simp, by omega, HJ3⟩, by simp [intOf]; omega⟩
      · have HD3 : Hid (D W3) := hD3
        clear hD3
        gi_wp2
        refine bodyPost_ret (results_none rfl _ _ _) rfl ?_
        exact ⟨⟨_, rfl⟩, .inr HD3.out⟩
    · have hlt' : ¬ (i : Int) < (K : Int) := by omega
      obtain rfl : i = K := by omega
      clear hY hK
      gi_wp2
      go_end0
      exact ⟨⟨_, rfl⟩, .inl hj.out⟩
end Go.Proofs.YtekoniaobmapdaaGreat

/- A loop over a function whose body goes on or returns; the marks that such loops leave among a call's deferred ones. -/
namespace Go.Proofs.YtekoniaobmapdaaGreat
open Go.RowKit Go.Shelf
set_option linter.unusedVariables false
set_option maxRecDepth 20000
attribute [local go_sem] Oper.semAt_some

theorem range_law {g : Operand} {ps : Array Tmp} {assign body : Code} {Q : Exit → Act → World → Prop} {a : Act} {w : World} {n gf : Nat} {lb : Array Value} (hg : a.eval g = .func (.func gf) #[] lb)
    (eg : ∀ args w, (callFunc gf args).run Tryz.prog w = .ok (.enter gf args) w)
    (h : ∀ r : Loop, r.state = .ready → r.pending = none → r.tmps = a.tmps → r.params = ps → r.assign = assign → r.body = body →
      CallsIn Fence.wide (n - 1) Tryz.prog gf (#[.func (.yield (w.heap.size + 1)) #[] #[]] ++ lb) ((w.alloc (.deferred (some []))).alloc (.loop r))
      fun e W' => (∃ v, e = .returned v) ∧ ∃ r' : Loop, W'.heap[w.heap.size + 1]? = some (.loop r') ∧ r'.state ≠ .busy ∧
        ((r'.pending = none ∧ Q .normal { a with defers := { target := .collected w.heap.size, args := #[] } :: a.defers } (W'.putObj (w.heap.size + 1) (.loop { r' with state := .exhausted }))) ∨
         (r'.pending = some .ret ∧ Q .ret { a with defers := { target := .collected w.heap.size, args := #[] } :: a.defers } (W'.putObj (w.heap.size + 1) (.loop { r' with state := .exhausted }))))) :
    (Code.rangeFunc g ps assign body).wpIn Fence.wide n Tryz.prog Q a w := by
  refine wpIn_rangeFunc ?_
  intro fn hfn
  have hent := run_enterLoop_outer (P := Tryz.prog) (w := w) fn a.tmps ps assign body
  obtain ⟨r, hr⟩ : ∃ r : Loop, r = { state := .ready, pending := none, fn, tmps := a.tmps, params := ps, assign, body, defers := w.heap.size } := ⟨_, rfl⟩
  have hh := h r (by rw [hr]) (by rw [hr]) (by rw [hr]) (by rw [hr]) (by rw [hr]) (by rw [hr])
  rw [← hr] at hent
  clear h hr
  generalize (w.alloc (.deferred (some []))).alloc (.loop r) = W1 at *
  refine ⟨w.heap.size + 1, [{ target := .collected w.heap.size, args := #[] }], W1, { target := .fn (.func gf) lb, args := #[.func (.yield (w.heap.size + 1)) #[] #[]] }, W1, gf, #[.func (.yield (w.heap.size + 1)) #[] #[]] ++ lb, W1, hent, ?_, fun _ _ => trivial, ?_, fun h => (by cases h), ?_⟩
  · simp only [resolve, hg]
    simp [go_sem]
  · simp [invoke, go_sem, eg]
  · refine hh.mono ?_
    rintro e W' ⟨⟨v, rfl⟩, r', h1, h2, h4⟩
    refine ⟨r'.pending, _, run_endLoop (P := Tryz.prog) h1 h2, ?_⟩
    rcases h4 with ⟨h3, h4⟩ | ⟨h3, h4⟩
    · rw [h3] at h4 ⊢
      exact h4
    · rw [h3] at h4 ⊢
      exact wpIn_ret h4

/-- The marks of loops over functions. -/
def marks (ds : List Nat) : List Deferred := ds.map fun b => { target := .collected b, args := #[] }

/-- A world that is another one but for the blocks ds. -/
structure But (ds : List Nat) (W W' : World) : Prop where
  os : W'.os = W.os
  tape : W'.tape = W.tape
  output : W'.output = W.output
  size : W'.heap.size = W.heap.size
  block : ∀ k, k ∉ ds → W'.heap[k]? = W.heap[k]?

theorem leaves_marks {n : Nat} {fn : Func} {tmps : Array Value} {R : Ending → World → Prop} : ∀ (ds : List Nat) (W : World), ds.Nodup → (∀ b ∈ ds, W.heap[b]? = some (.deferred (some []))) →
    (∀ W', But ds W W' → LeavesInM Fence.wide n Tryz.prog fn tmps R [] .returning W') → LeavesInM Fence.wide n Tryz.prog fn tmps R (marks ds) .returning W
  | [], W, _, _, h => h W ⟨rfl, rfl, rfl, rfl, fun _ _ => rfl⟩
  | b :: ds, W, hn, hb, h => by
    refine ⟨by simp, .inl ⟨b, W.putObj b (.deferred none), rfl, run_takeDeferred (hb b (List.mem_cons_self ..)), ?_⟩⟩
    obtain ⟨hbn, hn'⟩ := List.nodup_cons.1 hn
    refine leaves_marks ds _ hn' (fun c hc => ?_) (fun W' hW' => h W' ?_)
    · have hne : c ≠ b := fun e => hbn (by rw [← e]; exact hc)
      rw [World.putObj_heap_other hne]
      exact hb c (List.mem_cons_of_mem _ hc)
    · refine ⟨hW'.os, hW'.tape, hW'.output, by rw [hW'.size]; simp [World.putObj], fun k hk => ?_⟩
      have hne : k ≠ b := fun e => hk (by rw [e]; exact List.mem_cons_self ..)
      rw [hW'.block k (fun e => hk (List.mem_cons_of_mem _ e)), World.putObj_heap_other hne]

theorem But.grown {ds : List Nat} {W W' : World} (h : But ds W W') {B : Nat} (hB : ∀ b ∈ ds, B ≤ b) : Below B W W' :=
  ⟨h.os, h.tape, h.output, Nat.le_of_eq h.size.symm, fun k hk => h.block k (fun e => by have := hB k e; omega)⟩

theorem But.cell {ds : List Nat} {W W' : World} (h : But ds W W') {B i : Nat} (hB : B ∉ ds) : W'.cell? ⟨B, i, none⟩ = W.cell? ⟨B, i, none⟩ := by
  unfold World.cell?
  simp only [h.block B hB]
end Go.Proofs.YtekoniaobmapdaaGreat

/- Has: whether all places of a key are set. -/
namespace Go.Proofs.YtekoniaobmapdaaGreat
open Go.RowKit Go.Shelf
set_option linter.unusedVariables false
set_option maxRecDepth 20000
attribute [local go_sem] Oper.semAt_some

/-- Is place p set? -/
def setB (l : List Int) (p : Nat) : Bool := !(((l.getD (p / 8) 0).toNat &&& bitN p) == 0)
def hasF (h : Int) (K n : Nat) (l : List Int) : Bool := (List.range K).all fun i => setB l (plc h i n)

theorem hasF_true {h : Int} {K n : Nat} {l : List Int} (hs : ∀ j, j < K → setB l (plc h j n) = true) : hasF h K n l = true := by
  unfold hasF
  rw [List.all_eq_true]
  intro j hj
  exact hs j (List.mem_range.1 hj)
theorem plc_lt {h : Int} {i n : Nat} (hn : 1 ≤ n) : plc h i n / 8 < n := by
  have : plc h i n < 8 * n := by unfold plc; exact Nat.mod_lt _ (by omega)
  omega

theorem blk_al {w : World} {B : Nat} {o : Obj} (h : w.heap[B]? = some o) (o' : Obj) : (w.alloc o').heap[B]? = some o := blk_up h (up_alloc _ _)
theorem blk_nw (w : World) {N : Nat} (o : Obj) (h : w.heap.size = N) : (w.alloc o).heap[N]? = some o := by rw [← h]; exact blk_new w o

/-- What lies behind Has's loop. -/
structure HasW (w : World) (k : Int) (v : Value) (h : Int) (r : Loop) (W : World) : Prop where
  box : W.heap[w.heap.size]? = some (.cells #[.int .i64 k, v] 32)
  res : W.heap[w.heap.size + 1]? = some (.cells #[.bool false] 4)
  err : W.heap[w.heap.size + 2]? = some (.cells #[.int .i64 0] 26)
  pbox : W.heap[w.heap.size + 4]? = some (.cells #[.int .i64 k, v] 32)
  low : W.heap[w.heap.size + 5]? = some (.cells #[.int .u64 (lowN h)] 59)
  high : W.heap[w.heap.size + 6]? = some (.cells #[.int .u64 (highN h)] 59)
  dfr : W.heap[w.heap.size + 7]? = some (.deferred (some []))
  loop : W.heap[w.heap.size + 8]? = some (.loop r)
  below : Below w.heap.size w W

theorem HasW.put {w : World} {k : Int} {v : Value} {h : Int} {r : Loop} {W : World} (H : HasW w k v h r W) (r' : Loop) : HasW w k v h r' (W.putObj (w.heap.size + 8) (.loop r')) := by
  have g := grownBy_putObj' W (w.heap.size + 8) (.loop r')
  exact ⟨blk_grown H.box g (by simp), blk_grown H.res g (by simp), blk_grown H.err g (by simp), blk_grown H.pbox g (by simp), blk_grown H.low g (by simp), blk_grown H.high g (by simp), blk_grown H.dfr g (by simp), World.putObj_heap_same (blk_lt H.loop), H.below.grown g H.below.size (fun j hj => by simp at hj; omega)⟩

/-- The two results are written. -/
theorem HasW.res2 {w : World} {k : Int} {v : Value} {h : Int} {r : Loop} {W : World} (H : HasW w k v h r W) (x : Bool) (y : Int) :
    ((W.setCell ⟨w.heap.size + 1, 0, none⟩ (.bool x)).setCell ⟨w.heap.size + 2, 0, none⟩ (.int .i64 y)).heap[w.heap.size + 1]? = some (.cells #[.bool x] 4) ∧
    ((W.setCell ⟨w.heap.size + 1, 0, none⟩ (.bool x)).setCell ⟨w.heap.size + 2, 0, none⟩ (.int .i64 y)).heap[w.heap.size + 2]? = some (.cells #[.int .i64 y] 26) :=
  ⟨blk_grown (blk_set H.res 0 _) (grown_set _ _ _) (by simp), blk_set (blk_grown H.err (grown_set _ _ _) (by simp)) 0 _⟩
theorem HasW.set {w : World} {k : Int} {v : Value} {h : Int} {r : Loop} {W : World} (H : HasW w k v h r W) :
    HasW w k v h r ((W.setCell ⟨w.heap.size + 1, 0, none⟩ (.bool false)).setCell ⟨w.heap.size + 2, 0, none⟩ (.int .i64 0)) := by
  have g1 := grown_set W ⟨w.heap.size + 1, 0, none⟩ (.bool false)
  have g2 := grown_set (W.setCell ⟨w.heap.size + 1, 0, none⟩ (.bool false)) ⟨w.heap.size + 2, 0, none⟩ (.int .i64 0)
  have q := H.res2 false 0
  exact ⟨blk_grown (blk_grown H.box g1 (by simp)) g2 (by simp), q.1, q.2, blk_grown (blk_grown H.pbox g1 (by simp)) g2 (by simp), blk_grown (blk_grown H.low g1 (by simp)) g2 (by simp), blk_grown (blk_grown H.high g1 (by simp)) g2 (by simp), blk_grown (blk_grown H.dfr g1 (by simp)) g2 (by simp), blk_grown (blk_grown H.loop g1 (by simp)) g2 (by simp),
    (H.below.grown g1 H.below.size (fun j hj => by simp at hj; omega)).grown g2 (Nat.le_trans H.below.size g1.size) (fun j hj => by simp at hj; omega)⟩

end Go.Proofs.YtekoniaobmapdaaGreat
