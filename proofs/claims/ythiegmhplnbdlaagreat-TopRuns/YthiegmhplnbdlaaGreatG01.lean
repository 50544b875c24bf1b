/- Texts of layers 1 to 13, in this order. -/
import Derived.Test.YthiegmhplnbdlaaGreatProg
import Derived.WalkKit
import Derived.WalkLawsBesides
import Derived.WalkSpells
import Derived.KernelRfl
import Derived.Deep.QuietTactic
import Derived.BigQuiet
import Derived.BigRegion
import Derived.BigCall
import Derived.Deep.LoopGhost
import Derived.Deep.RegionWith
import Derived.Laws.BytesArg
import Derived.Laws.IdiomStrings
import Derived.Laws.AppendOwnNone
import Derived.Handy
import Derived.Lib.Tables
import Derived.OwnWalk

namespace Go.Proofs.YthiegmhplnbdlaaGreat
open Go.RowKit
set_option linter.unusedVariables false
theorem Tryz.info5 : (Tryz.prog.info? 5).map (fun i => (i.zero, i.size, i.bytes)) = some (some (.int .u8 0), 1, 1) := by kernel_rfl
theorem info_some {P : Program} {t : TypeId} {z : Value} {s b : Nat} (h : (P.info? t).map (fun i => (i.zero, i.size, i.bytes)) = some (some z, s, b)) :
    ∃ i, P.info? t = some i ∧ i.zero = some z ∧ i.size = s ∧ i.bytes = b := by
  cases e : P.info? t with
  | none => rw [e] at h; cases h
  | some i =>
    rw [e] at h
    simp at h
    exact ⟨i, rfl, h.1, h.2.1, h.2.2⟩
theorem ret_bool {a b : Bool} (h : a = b) : Ending.returned (.bool a) = .returned (.bool b) := by rw [h]
theorem ret_int {k : IntKind} {a b : Int} (h : a = b) : Ending.returned (.int k a) = .returned (.int k b) := by rw [h]
theorem up_drewN (w : World) (d : Nat) : Below w.heap.size w (w.drewN d) := ⟨rfl, rfl, rfl, Nat.le_refl _, fun _ _ => rfl⟩
theorem up_alloc (w : World) (o : Obj) : Below w.heap.size w (w.alloc o) := (Below.refl _ _).alloc (Nat.le_refl _) _
theorem up_trans {a b c : World} (h : Below a.heap.size a b) (k : Below b.heap.size b c) : Below a.heap.size a c := h.trans (k.mono h.size)
theorem up_al {a b : World} (h : Below a.heap.size a b) (o : Obj) : Below a.heap.size a (b.alloc o) := h.alloc h.size o
theorem up_dr {a b : World} (h : Below a.heap.size a b) : Below a.heap.size a b.drew := h.drew
theorem cells_new (w : World) (l more : List Value) (t : TypeId) (j : Nat) (u : Value) (h : l[j]? = some u) :
    (w.alloc (.cells (l ++ more).toArray t)).cell? ((⟨w.heap.size, 0, none⟩ : Addr).add j) = some u := by
  have hj : j < l.length := by
    rcases Nat.lt_or_ge j l.length with h1 | h1
    · exact h1
    · rw [List.getElem?_eq_none h1] at h; cases h
  have e : (l ++ more)[j]? = some u := by rw [List.getElem?_append_left hj]; exact h
  have ea : (⟨w.heap.size, 0, none⟩ : Addr).add j = ⟨w.heap.size, j, none⟩ := by rw [Addr.add_lit, Nat.zero_add]
  rw [ea, World.cell?_alloc_new]
  simpa using e
theorem one_u8 (l : List Int) : ∀ u ∈ l.map (Value.int .u8), u.oneCell' = true := by
  intro u hu
  obtain ⟨x, _, rfl⟩ := List.mem_map.1 hu
  rfl
def nums (s : ByteArray) : List Int := s.data.toList.map fun b => (b.toNat : Int)
theorem nums_octet (s : ByteArray) : ∀ x ∈ nums s, 0 ≤ x ∧ x ≤ 255 := by
  intro x hx
  obtain ⟨b, _, rfl⟩ := List.mem_map.1 hx
  have := b.toNat_lt
  omega
theorem str_nums (s : ByteArray) : strOfNums (nums s) = s := by
  obtain ⟨⟨l⟩⟩ := s
  simp only [strOfNums, nums, List.map_map]
  have e : l.map ((fun n : Int => UInt8.ofNat n.toNat) ∘ fun b : UInt8 => (b.toNat : Int)) = l := by
    refine (List.map_congr_left (g := id) fun x _ => ?_).trans (by simp)
    simp
  rw [e]
theorem nums_str (l : List Int) (h : ∀ x ∈ l, 0 ≤ x ∧ x ≤ 255) : nums (strOfNums l) = l := by
  simp only [nums, strOfNums, List.map_map]
  refine (List.map_congr_left (g := id) fun x hx => ?_).trans (by simp)
  have := h x hx
  simp only [Function.comp, UInt8.toNat_ofNat', id]
  omega
theorem nums_length (s : ByteArray) : (nums s).length = s.size := by
  unfold nums ByteArray.size
  rw [List.length_map, Array.length_toList]
theorem str_inj (l1 l2 : List Int) (h1 : ∀ x ∈ l1, 0 ≤ x ∧ x ≤ 255) (h2 : ∀ x ∈ l2, 0 ≤ x ∧ x ≤ 255) (h : strOfNums l1 = strOfNums l2) : l1 = l2 := by
  rw [← nums_str l1 h1, ← nums_str l2 h2, h]
theorem str_list (l : List Int) : (strOfNums l).toList = l.map fun n => UInt8.ofNat n.toNat := by
  simp [strOfNums]
theorem str_eq (l1 l2 : List Int) (h1 : ∀ x ∈ l1, 0 ≤ x ∧ x ≤ 255) (h2 : ∀ x ∈ l2, 0 ≤ x ∧ x ≤ 255) : ((strOfNums l1).toList == (strOfNums l2).toList) = decide (l1 = l2) := by
  by_cases h : l1 = l2
  · subst h; simp
  · rw [decide_eq_false h, beq_eq_false_iff_ne]
    intro e
    apply h
    apply str_inj l1 l2 h1 h2
    rw [str_list, str_list] at e
    simp [strOfNums, e]
theorem str_cut (l : List Int) (a b : Nat) : (strOfNums l).extract a b = strOfNums ((l.drop a).take (b - a)) := by
  simp only [strOfNums]
  rw [ByteArray.extract_mk]
  simp [List.map_drop, List.map_take]
theorem str_cat (l1 l2 : List Int) : strOfNums l1 ++ strOfNums l2 = strOfNums (l1 ++ l2) := by
  apply ByteArray.ext
  simp [strOfNums]
def Octs (w : World) (v : Value) (l : List Int) : Prop :=
  (∀ x ∈ l, 0 ≤ x ∧ x ≤ 255) ∧
  ((l = [] ∧ ∃ a cap, v = .slice a 0 cap ∧ (a = none → cap = 0)) ∨
   (l ≠ [] ∧ ∃ b off cap, v = .slice (some ⟨b, off, none⟩) l.length cap ∧ l.length ≤ cap ∧ cap ≤ maxLen ∧ ∀ j x, l[j]? = some x → w.cell? ⟨b, off + j, none⟩ = some (.int .u8 x)))
theorem Octs.moved {w w' : World} {v : Value} {l : List Int} (h : Octs w v l) (e : ∀ b off x, l ≠ [] → v.ownBlock = some b → w.cell? ⟨b, off, none⟩ = some x → w'.cell? ⟨b, off, none⟩ = some x) : Octs w' v l := by
  obtain ⟨hx, hv⟩ := h
  refine ⟨hx, ?_⟩
  rcases hv with h0 | ⟨hn, b, off, cap, rfl, hc, hm, hj⟩
  · exact .inl h0
  · exact .inr ⟨hn, b, off, cap, rfl, hc, hm, fun j x hx => e b (off + j) _ hn rfl (hj j x hx)⟩
theorem Octs.up {w w' : World} {v : Value} {l : List Int} (h : Octs w v l) (hb : Below w.heap.size w w') : Octs w' v l :=
  h.moved fun b off x hn hv hc => (hb.cell (p := ⟨b, off, none⟩) (World.block_lt_of_cell? w ⟨b, off, none⟩ hc)).trans hc
def OwnB (w : World) (base : Nat) (v : Value) (l : List Int) : Prop := w.ownsRow base 5 1 v l.length (l.map (Value.int .u8))
theorem OwnB.nil (w : World) (base : Nat) : OwnB w base (.slice none 0 0) [] := World.ownsRow_nil _ _ _ _
theorem Octs.own {w : World} {base : Nat} {v : Value} {l : List Int} (h : OwnB w base v l) (hx : ∀ x ∈ l, 0 ≤ x ∧ x ≤ 255) : Octs w v l := by
  obtain ⟨_, h2⟩ := h
  refine ⟨hx, ?_⟩
  rcases h2 with ⟨rfl, h0⟩ | ⟨g, cap, cur, rfl, hg, hh, hn, hm, hs, ht⟩
  · exact .inl ⟨List.length_eq_zero_iff.1 h0, _, _, rfl, fun _ => rfl⟩
  · by_cases hl : l = []
    · subst hl
      exact .inl ⟨rfl, _, _, rfl, fun h => by cases h⟩
    · refine .inr ⟨hl, g, 0, cap, rfl, hn, hm, fun j x hj => ?_⟩
      have hj' : (l.map (Value.int .u8))[j]? = some (.int .u8 x) := by simp [hj]
      rw [← ht, List.getElem?_take] at hj'
      split at hj'
      · simp only [World.cell?, hh, Nat.zero_add]
        simpa using hj'
      · cases hj'
theorem Octs.made (w : World) (l : List Int) (hx : ∀ x ∈ l, 0 ≤ x ∧ x ≤ 255) (hm : l.length ≤ maxLen) : Octs (w.alloc (.cells (l.map (Value.int .u8)).toArray 5)) (.slice (some ⟨w.heap.size, 0, none⟩) l.length l.length) l := by
  refine ⟨hx, ?_⟩
  by_cases hl : l = []
  · subst hl; exact .inl ⟨rfl, _, _, rfl, fun h => by cases h⟩
  · refine .inr ⟨hl, w.heap.size, 0, l.length, rfl, Nat.le_refl _, hm, fun j x hj => ?_⟩
    have := cells_new w (l.map (Value.int .u8)) [] 5 j (.int .u8 x) (by simp [hj])
    simpa [Addr.add_lit] using this
theorem run_convert_octs (l : List Int) (v : Value) (w : World) (hv : Octs w v l) : (convert 25 9 v).run Tryz.prog w = .ok (.string (strOfNums l)) w := by
  obtain ⟨hx, hv⟩ := hv
  rcases hv with ⟨rfl, a, cap, rfl, _⟩ | ⟨hne, b, off, cap, rfl, hcap, hm, hc⟩
  · cases a with
    | none => exact run_convert_bytes_nil w 25 5 Tryz.underlying25 Tryz.underlying5 0 cap 9 Tryz.underlying9
    | some a =>
      have hl : (loadCells a 0).run Tryz.prog w = .ok (([] : List Int).map (Value.int .u8)).toArray w := by
        have := run_loadCells_list (P := Tryz.prog) w a [] (fun j v hj => by simp at hj)
        simpa using this
      rw [run_convert_bytes_string w 25 9 5 _ 0 cap Tryz.underlying25 Tryz.underlying5 Tryz.underlying9, run_bytesToString w _ 0 cap [] hl]
      rfl
  · exact run_convert_bytes_arg w 25 5 Tryz.underlying25 Tryz.underlying5 b off _ cap l rfl (fun i hi => hc i _ (by simp [List.getD, hi])) 9 Tryz.underlying9
theorem grown_refl (w : World) (r : Option Nat) : w.grownBy w r := ⟨rfl, rfl, rfl, Nat.le_refl _, fun _ _ _ => rfl⟩
theorem wpList_append_octs (w : World) {ops : Array Oper} {rest : List Oper} {o : Oper} {a : Act} {Q : Exit → Act → World → Prop} (hgd : o.guard = none) (s x : Operand)
    (ho : o.op = .call { callee := .builtin .append, args := #[s, x], argTypes := #[25, 25] }) (base : Nat) (v : Value) (l0 : List Int) (hs : a.eval s = v) (hown : OwnB w base v l0)
    (vx : Value) (lx : List Int) (hx : a.eval x = vx) (hO : Octs w vx lx) (hsz : l0.length + lx.length ≤ 140737488355328) (hbase : base ≤ w.heap.size)
    (h : ∀ v' w', OwnB w' base v' (l0 ++ lx) → w.grownBy w' v.ownBlock → wpList Tryz.prog ops Q rest (a.put o.dst v') w') : wpList Tryz.prog ops Q (o :: rest) a w := by
  obtain ⟨i0, hi, hz0, hz1, hz2⟩ := info_some Tryz.info5
  obtain ⟨hoct, hO⟩ := hO
  have fin : ∀ v' w', w'.ownsRow base 5 1 v' (l0.length + lx.length) (l0.map (Value.int .u8) ++ lx.map (Value.int .u8)) → w.grownBy w' v.ownBlock → wpList Tryz.prog ops Q rest (a.put o.dst v') w' := by
    intro v' w' h1 h2
    refine h v' w' ?_ h2
    unfold OwnB
    rw [List.length_append, List.map_append]
    exact h1
  rcases hO with ⟨rfl, ax, cap, rfl, hn⟩ | ⟨hne, b, off, cap, rfl, hcap, hm, hc⟩
  · cases ax with
    | none =>
      obtain rfl := hn rfl
      refine wpList_append_own_none hgd s x 25 ho base 5 i0 1 Tryz.underlying25 hi v l0.length (l0.map (Value.int .u8)) hs hown hx ?_
      refine fin v w ?_ (grown_refl w _)
      unfold OwnB at hown
      simpa using hown
    | some ad =>
      refine wpList_append_own w hgd s x 25 ho base 5 i0 (.int .u8 0) 1 1 Tryz.underlying25 hi hz0 hz1 hz2 rfl (by decide) v l0.length _ hs hown ad 0 cap [] hx rfl (fun j u hj => by simp at hj) (fun u hu => by cases hu) ?_ ?_ hbase ?_
      · simp only [List.length_nil] at hsz; unfold maxLen; omega
      · simp only [List.length_nil] at hsz; omega
      · intro v' w' h1 h2 _
        exact fin v' w' (by simpa using h1) h2
  · refine wpList_append_own w hgd s x 25 ho base 5 i0 (.int .u8 0) 1 1 Tryz.underlying25 hi hz0 hz1 hz2 rfl (by decide) v l0.length _ hs hown ⟨b, off, none⟩ lx.length cap (lx.map (Value.int .u8)) hx (by simp) ?_ (one_u8 lx) ?_ ?_ hbase ?_
    · intro j u hj
      rw [List.getElem?_map] at hj
      cases hx : lx[j]? with
      | none => rw [hx] at hj; cases hj
      | some y =>
        rw [hx] at hj
        simp at hj
        subst hj
        rw [Addr.add_lit]
        exact hc j y hx
    · unfold maxLen; omega
    · omega
    · intro v' w' h1 h2 _
      exact fin v' w' h1 h2
theorem own_up {w w' : World} {base n0 : Nat} {e : TypeId} {v : Value} {n : Nat} {xs : List Value} (h : w.ownsRow base e n0 v n xs) (hb : Below w.heap.size w w') : w'.ownsRow base e n0 v n xs := by
  have hlt := h.lt
  obtain ⟨h1, h2⟩ := h
  refine ⟨h1, ?_⟩
  rcases h2 with h0 | ⟨g, cap, cur, rfl, hg, hh, r⟩
  · exact .inl h0
  · exact .inr ⟨g, cap, cur, rfl, hg, (hb.block g (hlt g rfl).2).trans hh, r⟩
theorem take_snoc {A : Type} (ls : List A) (k : Nat) (d : A) (h : k < ls.length) : ls.take (k + 1) = ls.take k ++ [ls.getD k d] := by
  rw [List.take_succ_eq_append_getElem h]
  simp [List.getD, h]
end Go.Proofs.YthiegmhplnbdlaaGreat

namespace Go.Proofs.YthiegmhplnbdlaaGreat
open Go.RowKit
def bl (n : Int) : Int := (bitLen n.toNat : Int)
theorem bl_table : ∀ n : Fin 256, Lib.len8 (n.val : Int) = (bitLen n.val : Int) := by decide +kernel
theorem bl_len8 (n : Int) (h0 : 0 ≤ n) (h1 : n ≤ 255) : Lib.len8 n = bl n := by
  have := bl_table ⟨n.toNat, by omega⟩
  unfold bl
  rw [← this]
  congr 1
  show n = ((n.toNat : Nat) : Int)
  omega
theorem bl_shift (n : Int) (b : Nat) (h0 : 0 ≤ n) (h : (2 : Int) ^ b ≤ n) : bl n = b + bl (n / 2 ^ b) := by
  obtain ⟨x, rfl⟩ := Int.eq_ofNat_of_zero_le h0
  have e : ((x : Int) / 2 ^ b).toNat = x / 2 ^ b := by
    have : ((x : Int) / 2 ^ b) = ((x / 2 ^ b : Nat) : Int) := by simp
    rw [this]; rfl
  have hx : 2 ^ b ≤ x := by exact_mod_cast h
  have hd : x / 2 ^ b ≠ 0 := by
    have := Nat.div_pos hx (Nat.two_pow_pos b)
    omega
  unfold bl
  rw [e, Int.toNat_natCast, bitLen_shift x b hd]
  omega
theorem len8_bd (n : Int) (h0 : 0 ≤ n) (h1 : n ≤ 255) : 0 ≤ Lib.len8 n ∧ Lib.len8 n ≤ 8 := by
  rw [bl_len8 n h0 h1]
  have := bitLen_le8 n.toNat (by omega)
  unfold bl
  omega
theorem len8_any (n : Int) (w : World) (h0 : 0 ≤ n) (h1 : n ≤ 255) :
    Calls Tryz.prog 122 #[.int .u8 n] w fun e w' => e = .returned (.int .i64 (bl n)) ∧ w' = w := by
  have H : Hid (Lib.len8 n = bl n) := bl_len8 n h0 h1
  obtain ⟨b0, b1⟩ := len8_bd n h0 h1
  go_enter Tryz.func122, Tryz.ntmps122
  go_wp2
  go_ret
  exact ⟨ret_int (by rw [H.out]), rfl⟩
theorem bl_road (n x : Int) (b : Nat) (h0 : 0 ≤ n) (hb : b = 0 ∨ (2 : Int) ^ b ≤ n) (hx : x = n / 2 ^ b) (h1 : x ≤ 255) : (b : Int) + Lib.len8 x = bl n := by
  have hx0 : 0 ≤ x := by
    rw [hx]; exact Int.ediv_nonneg h0 (Int.le_of_lt (Int.pow_pos (by decide)))
  rw [bl_len8 x hx0 h1, hx]
  rcases hb with rfl | hb
  · simp
  · exact (bl_shift n b h0 hb).symm
set_option maxHeartbeats 400000 in
theorem len64_any (n : Int) (w : World) (h0 : 0 ≤ n) (h1 : n ≤ 18446744073709551615) :
    Calls Tryz.prog 95 #[.int .u64 n] w fun e w' => e = .returned (.int .i64 (bl n)) ∧ w' = w := by
  by_cases c1 : 4294967296 ≤ n
  · by_cases c2 : 65536 ≤ n / 4294967296
    · by_cases c3 : 256 ≤ n / 4294967296 / 65536
      · have q0 : 0 ≤ n / 4294967296 / 65536 / 256 := by omega
        have q1 : n / 4294967296 / 65536 / 256 ≤ 255 := by omega
        obtain ⟨b0, b1⟩ := len8_bd _ q0 q1
        have H : Hid (((56 : Nat) : Int) + Lib.len8 (n / 4294967296 / 65536 / 256) = bl n) := bl_road n _ 56 h0 (.inr (by omega)) (by omega) q1
        go_enter Tryz.func95, Tryz.ntmps95
        go_wp2
        go_ret
        exact ⟨ret_int H.out, rfl⟩
      · have q0 : 0 ≤ n / 4294967296 / 65536 := by omega
        have q1 : n / 4294967296 / 65536 ≤ 255 := by omega
        obtain ⟨b0, b1⟩ := len8_bd _ q0 q1
        have H : Hid (((48 : Nat) : Int) + Lib.len8 (n / 4294967296 / 65536) = bl n) := bl_road n _ 48 h0 (.inr (by omega)) (by omega) q1
        go_enter Tryz.func95, Tryz.ntmps95
        go_wp2
        go_ret
        exact ⟨ret_int H.out, rfl⟩
    · by_cases c3 : 256 ≤ n / 4294967296
      · have q0 : 0 ≤ n / 4294967296 / 256 := by omega
        have q1 : n / 4294967296 / 256 ≤ 255 := by omega
        obtain ⟨b0, b1⟩ := len8_bd _ q0 q1
        have H : Hid (((40 : Nat) : Int) + Lib.len8 (n / 4294967296 / 256) = bl n) := bl_road n _ 40 h0 (.inr (by omega)) (by omega) q1
        go_enter Tryz.func95, Tryz.ntmps95
        go_wp2
        go_ret
        exact ⟨ret_int H.out, rfl⟩
      · have q0 : 0 ≤ n / 4294967296 := by omega
        have q1 : n / 4294967296 ≤ 255 := by omega
        obtain ⟨b0, b1⟩ := len8_bd _ q0 q1
        have H : Hid (((32 : Nat) : Int) + Lib.len8 (n / 4294967296) = bl n) := bl_road n _ 32 h0 (.inr (by omega)) (by omega) q1
        go_enter Tryz.func95, Tryz.ntmps95
        go_wp2
        go_ret
        exact ⟨ret_int H.out, rfl⟩
  · by_cases c2 : 65536 ≤ n
    · by_cases c3 : 256 ≤ n / 65536
      · have q0 : 0 ≤ n / 65536 / 256 := by omega
        have q1 : n / 65536 / 256 ≤ 255 := by omega
        obtain ⟨b0, b1⟩ := len8_bd _ q0 q1
        have H : Hid (((24 : Nat) : Int) + Lib.len8 (n / 65536 / 256) = bl n) := bl_road n _ 24 h0 (.inr (by omega)) (by omega) q1
        go_enter Tryz.func95, Tryz.ntmps95
        go_wp2
        go_ret
        exact ⟨ret_int H.out, rfl⟩
      · have q0 : 0 ≤ n / 65536 := by omega
        have q1 : n / 65536 ≤ 255 := by omega
        obtain ⟨b0, b1⟩ := len8_bd _ q0 q1
        have H : Hid (((16 : Nat) : Int) + Lib.len8 (n / 65536) = bl n) := bl_road n _ 16 h0 (.inr (by omega)) (by omega) q1
        go_enter Tryz.func95, Tryz.ntmps95
        go_wp2
        go_ret
        exact ⟨ret_int H.out, rfl⟩
    · by_cases c3 : 256 ≤ n
      · have q0 : 0 ≤ n / 256 := by omega
        have q1 : n / 256 ≤ 255 := by omega
        obtain ⟨b0, b1⟩ := len8_bd _ q0 q1
        have H : Hid (((8 : Nat) : Int) + Lib.len8 (n / 256) = bl n) := bl_road n _ 8 h0 (.inr (by omega)) (by omega) q1
        go_enter Tryz.func95, Tryz.ntmps95
        go_wp2
        go_ret
        exact ⟨ret_int H.out, rfl⟩
      · have q1 : n ≤ 255 := by omega
        obtain ⟨b0, b1⟩ := len8_bd _ h0 q1
        have H : Hid (((0 : Nat) : Int) + Lib.len8 n = bl n) := bl_road n _ 0 h0 (.inl rfl) (by simp) q1
        go_enter Tryz.func95, Tryz.ntmps95
        go_wp2
        go_ret
        exact ⟨ret_int (by simpa using H.out), rfl⟩
theorem bl_nonneg (n : Int) : 0 ≤ bl n := by unfold bl; omega
theorem bl_le8 (n : Int) (h0 : 0 ≤ n) (h1 : n ≤ 255) : bl n ≤ 8 := by
  have := bitLen_le8 n.toNat (by omega)
  unfold bl
  omega
theorem lz8_any (n : Int) (w : World) (h0 : 0 ≤ n) (h1 : n ≤ 255) :
    Calls Tryz.prog 113 #[.int .u8 n] w fun e w' => e = .returned (.int .i64 (8 - bl n)) ∧ w' = w := by
  have b0 := bl_nonneg n
  have b1 := bl_le8 n h0 h1
  go_enter Tryz.func113, Tryz.ntmps113
  go_wp2_with (go_at_call 122; refine (len8_any _ _ (by omega) (by omega)).mono ?_; rintro e w' ⟨rfl, rfl⟩)
  go_ret
  exact ⟨rfl, rfl⟩
def toldOf (f : Int) : Int := 9 - bl (255 - f)
def leadOf (k : Int) : Int := 255 - 255 / 2 ^ (k - 1).toNat
theorem not_u8 (f : Int) (h0 : 0 ≤ f) (h1 : f ≤ 255) : bits .xor .u8 IntKind.u8.max f = 255 - f := by
  have : ∀ x : Fin 256, bits .xor .u8 IntKind.u8.max (x.val : Int) = 255 - (x.val : Int) := by decide +kernel
  have h := this ⟨f.toNat, by omega⟩
  have e : ((f.toNat : Nat) : Int) = f := by omega
  rw [show ((⟨f.toNat, by omega⟩ : Fin 256).val : Int) = f from e] at h
  exact h
theorem told_any (f : Int) (w : World) (h0 : 0 ≤ f) (h1 : f ≤ 255) :
    Calls Tryz.prog 98 #[.int .u8 f] w fun e w' => e = .returned (.int .i64 (toldOf f)) ∧ w' = w := by
  have b0 := bl_nonneg (255 - f)
  have b1 := bl_le8 (255 - f) (by omega) (by omega)
  have hx := not_u8 f h0 h1
  go_enter Tryz.func98, Tryz.ntmps98
  go_wp2_with fail
  refine (lz8_any (255 - f) _ (by omega) (by omega)).mono ?_
  rintro e w' ⟨rfl, rfl⟩
  go_wp2
  go_ret
  exact ⟨ret_int (by unfold toldOf; omega), rfl⟩
theorem lead_any (k : Int) (w : World) (h0 : 1 ≤ k) (h1 : k ≤ 9) :
    Calls Tryz.prog 96 #[.int .i64 k] w fun e w' => e = .returned (.int .u8 (leadOf k)) ∧ w' = w := by
  have hk : k = 1 ∨ k = 2 ∨ k = 3 ∨ k = 4 ∨ k = 5 ∨ k = 6 ∨ k = 7 ∨ k = 8 ∨ k = 9 := by omega
  rcases hk with rfl | rfl | rfl | rfl | rfl | rfl | rfl | rfl | rfl
  all_goals
    go_enter Tryz.func96, Tryz.ntmps96
    go_wp2
    go_ret
    exact ⟨ret_int (by decide +kernel), rfl⟩
def sizeOf (n : Int) : Int := min (max ((bl n + 6) / 7) 1) 9
theorem bl_le64 (n : Int) (h0 : 0 ≤ n) (h1 : n ≤ 18446744073709551615) : bl n ≤ 64 := by
  unfold bl bitLen
  split
  · omega
  · rename_i h
    have := (Nat.log2_lt h).2 (show n.toNat < 2 ^ 64 by omega)
    omega
theorem size_any (n : Int) (w : World) (h0 : 0 ≤ n) (h1 : n ≤ 18446744073709551615) :
    Calls Tryz.prog 80 #[.int .u64 n] w fun e w' => e = .returned (.int .i64 (sizeOf n)) ∧ w' = w := by
  have b0 := bl_nonneg n
  have b1 := bl_le64 n h0 h1
  go_enter Tryz.func80, Tryz.ntmps80
  go_wp2_with (go_at_call 95; refine (len64_any n _ h0 h1).mono ?_; rintro e w' ⟨rfl, rfl⟩)
  all_goals
    go_ret
    exact ⟨ret_int (by unfold sizeOf; omega), rfl⟩
theorem wrap_u64_id (n : Int) (h0 : 0 ≤ n) (h1 : n ≤ 18446744073709551615) : IntKind.u64.wrap n = n := by
  rw [IntKind.wrap_u64]; omega
end Go.Proofs.YthiegmhplnbdlaaGreat

namespace Go.Proofs.YthiegmhplnbdlaaGreat
open Go.RowKit
def octs (n : Int) : Nat → List Int
  | 1 => [n]
  | 2 => [128 + n / 256, n % 256]
  | 3 => [192 + n / 65536, n / 256 % 256, n % 256]
  | 4 => [224 + n / 16777216, n / 65536 % 256, n / 256 % 256, n % 256]
  | 5 => [240 + n / 4294967296, n / 16777216 % 256, n / 65536 % 256, n / 256 % 256, n % 256]
  | 6 => [248 + n / 1099511627776, n / 4294967296 % 256, n / 16777216 % 256, n / 65536 % 256, n / 256 % 256, n % 256]
  | 7 => [252 + n / 281474976710656, n / 1099511627776 % 256, n / 4294967296 % 256, n / 16777216 % 256, n / 65536 % 256, n / 256 % 256, n % 256]
  | 8 => [254 + n / 72057594037927936, n / 281474976710656 % 256, n / 1099511627776 % 256, n / 4294967296 % 256, n / 16777216 % 256, n / 65536 % 256, n / 256 % 256, n % 256]
  | 9 => [255, n / 72057594037927936 % 256, n / 281474976710656 % 256, n / 1099511627776 % 256, n / 4294967296 % 256, n / 16777216 % 256, n / 65536 % 256, n / 256 % 256, n % 256]
  | _ => []
theorem or_table : ∀ k : Fin 9, ∀ x : Fin 256, x.val < 2 ^ (7 - k.val) → k.val < 8 → bits .or .u8 (x.val : Int) (leadOf ((k.val : Int) + 1)) = leadOf ((k.val : Int) + 1) + (x.val : Int) := by decide +kernel
theorem or_lead (k : Nat) (x : Int) (L : Int) (hk : k < 8) (hL : leadOf ((k : Int) + 1) = L) (h0 : 0 ≤ x) (h1 : x < 2 ^ (7 - k)) (h2 : x < 256) : bits .or .u8 x L = L + x := by
  have h := or_table ⟨k, by omega⟩ ⟨x.toNat, by omega⟩ (by
    show x.toNat < 2 ^ (7 - k)
    have : ((2 ^ (7 - k) : Nat) : Int) = 2 ^ (7 - k) := by simp
    omega) hk
  have e : ((x.toNat : Nat) : Int) = x := by omega
  have h' : bits .or .u8 ((x.toNat : Nat) : Int) (leadOf ((k : Int) + 1)) = leadOf ((k : Int) + 1) + ((x.toNat : Nat) : Int) := h
  rw [e, hL] at h'
  exact h'
theorem agg9 {a0 a1 a2 a3 a4 a5 a6 a7 a8 b0 b1 b2 b3 b4 b5 b6 b7 b8 : Int} (h0 : a0 = b0) (h1 : a1 = b1) (h2 : a2 = b2) (h3 : a3 = b3) (h4 : a4 = b4) (h5 : a5 = b5) (h6 : a6 = b6) (h7 : a7 = b7) (h8 : a8 = b8) :
    Ending.returned (.agg #[.int .u8 a0, .int .u8 a1, .int .u8 a2, .int .u8 a3, .int .u8 a4, .int .u8 a5, .int .u8 a6, .int .u8 a7, .int .u8 a8]) =
    .returned (.agg #[.int .u8 b0, .int .u8 b1, .int .u8 b2, .int .u8 b3, .int .u8 b4, .int .u8 b5, .int .u8 b6, .int .u8 b7, .int .u8 b8]) := by
  rw [h0, h1, h2, h3, h4, h5, h6, h7, h8]
set_option maxHeartbeats 1000000 in
theorem lay1 (n : Int) (w : World) (h0 : 0 ≤ n) (h1 : n ≤ 127) :
    Calls Tryz.prog 81 #[.int .u64 n, .int .i64 1] w fun e w' => e = .returned (.agg #[.int .u8 (n), .int .u8 (0), .int .u8 (0), .int .u8 (0), .int .u8 (0), .int .u8 (0), .int .u8 (0), .int .u8 (0), .int .u8 (0)]) ∧ Below w.heap.size w w' := by
  have hl : leadOf 1 = 0 := by decide +kernel
  have hx : bits .or .u8 (n) 0 = 0 + (n) := or_lead 0 (n) 0 (by decide) hl (by omega) (by show n < 128; omega) (by omega)
  go_enter Tryz.func81, Tryz.ntmps81
  go_wp2
  refine wp_loop_rounds 2 ?_
  rw [rounds_succ]
  go_wp2
  rw [rounds_succ]
  go_wp2
  go_region_with (go_at_call 96; refine (lead_any 1 _ (by omega) (by omega)).mono ?_; rintro e w' ⟨rfl, rfl⟩)
  all_goals go_wp2
  all_goals
    exact bodyPost_ret (v := .agg #[.int .u8 (n), .int .u8 (0), .int .u8 (0), .int .u8 (0), .int .u8 (0), .int .u8 (0), .int .u8 (0), .int .u8 (0), .int .u8 (0)]) (by simp [results, Tryz.results81, go_sem]) rfl ⟨agg9 (by omega) (by omega) (by omega) (by omega) (by omega) (by omega) (by omega) (by omega) (by omega), (((Below.refl _ _).alloc (Nat.le_refl _) _).alloc (by simp) _).drew⟩
set_option maxHeartbeats 1000000 in
theorem lay2 (n : Int) (w : World) (h0 : 0 ≤ n) (h1 : n ≤ 16383) :
    Calls Tryz.prog 81 #[.int .u64 n, .int .i64 2] w fun e w' => e = .returned (.agg #[.int .u8 (128 + n / 256), .int .u8 (n % 256), .int .u8 (0), .int .u8 (0), .int .u8 (0), .int .u8 (0), .int .u8 (0), .int .u8 (0), .int .u8 (0)]) ∧ Below w.heap.size w w' := by
  have hl : leadOf 2 = 128 := by decide +kernel
  have hx : bits .or .u8 (n / 256) 128 = 128 + (n / 256) := or_lead 1 (n / 256) 128 (by decide) hl (by omega) (by show n / 256 < 64; omega) (by omega)
  go_enter Tryz.func81, Tryz.ntmps81
  go_wp2
  refine wp_loop_rounds 3 ?_
  rw [rounds_succ]
  go_wp2
  rw [rounds_succ]
  go_wp2
  rw [rounds_succ]
  go_wp2
  go_region_with (go_at_call 96; refine (lead_any 2 _ (by omega) (by omega)).mono ?_; rintro e w' ⟨rfl, rfl⟩)
  all_goals go_wp2
  all_goals
    exact bodyPost_ret (v := .agg #[.int .u8 (128 + n / 256), .int .u8 (n % 256), .int .u8 (0), .int .u8 (0), .int .u8 (0), .int .u8 (0), .int .u8 (0), .int .u8 (0), .int .u8 (0)]) (by simp [results, Tryz.results81, go_sem]) rfl ⟨agg9 (by omega) (by omega) (by omega) (by omega) (by omega) (by omega) (by omega) (by omega) (by omega), (((Below.refl _ _).alloc (Nat.le_refl _) _).alloc (by simp) _).drew⟩
set_option maxHeartbeats 1000000 in
theorem lay3 (n : Int) (w : World) (h0 : 0 ≤ n) (h1 : n ≤ 2097151) :
    Calls Tryz.prog 81 #[.int .u64 n, .int .i64 3] w fun e w' => e = .returned (.agg #[.int .u8 (192 + n / 65536), .int .u8 (n / 256 % 256), .int .u8 (n % 256), .int .u8 (0), .int .u8 (0), .int .u8 (0), .int .u8 (0), .int .u8 (0), .int .u8 (0)]) ∧ Below w.heap.size w w' := by
  have hl : leadOf 3 = 192 := by decide +kernel
  have hx : bits .or .u8 (n / 256 / 256) 192 = 192 + (n / 256 / 256) := or_lead 2 (n / 256 / 256) 192 (by decide) hl (by omega) (by show n / 256 / 256 < 32; omega) (by omega)
  go_enter Tryz.func81, Tryz.ntmps81
  go_wp2
  refine wp_loop_rounds 4 ?_
  rw [rounds_succ]
  go_wp2
  rw [rounds_succ]
  go_wp2
  rw [rounds_succ]
  go_wp2
  rw [rounds_succ]
  go_wp2
  go_region_with (go_at_call 96; refine (lead_any 3 _ (by omega) (by omega)).mono ?_; rintro e w' ⟨rfl, rfl⟩)
  all_goals go_wp2
  all_goals
    exact bodyPost_ret (v := .agg #[.int .u8 (192 + n / 256 / 256), .int .u8 (n / 256 % 256), .int .u8 (n % 256), .int .u8 (0), .int .u8 (0), .int .u8 (0), .int .u8 (0), .int .u8 (0), .int .u8 (0)]) (by simp [results, Tryz.results81, go_sem]) rfl ⟨agg9 (by omega) (by omega) (by omega) (by omega) (by omega) (by omega) (by omega) (by omega) (by omega), (((Below.refl _ _).alloc (Nat.le_refl _) _).alloc (by simp) _).drew⟩
set_option maxHeartbeats 1000000 in
theorem lay4 (n : Int) (w : World) (h0 : 0 ≤ n) (h1 : n ≤ 268435455) :
    Calls Tryz.prog 81 #[.int .u64 n, .int .i64 4] w fun e w' => e = .returned (.agg #[.int .u8 (224 + n / 16777216), .int .u8 (n / 65536 % 256), .int .u8 (n / 256 % 256), .int .u8 (n % 256), .int .u8 (0), .int .u8 (0), .int .u8 (0), .int .u8 (0), .int .u8 (0)]) ∧ Below w.heap.size w w' := by
  have hl : leadOf 4 = 224 := by decide +kernel
  have hx : bits .or .u8 (n / 256 / 256 / 256) 224 = 224 + (n / 256 / 256 / 256) := or_lead 3 (n / 256 / 256 / 256) 224 (by decide) hl (by omega) (by show n / 256 / 256 / 256 < 16; omega) (by omega)
  go_enter Tryz.func81, Tryz.ntmps81
  go_wp2
  refine wp_loop_rounds 5 ?_
  rw [rounds_succ]
  go_wp2
  rw [rounds_succ]
  go_wp2
  rw [rounds_succ]
  go_wp2
  rw [rounds_succ]
  go_wp2
  rw [rounds_succ]
  go_wp2
  go_region_with (go_at_call 96; refine (lead_any 4 _ (by omega) (by omega)).mono ?_; rintro e w' ⟨rfl, rfl⟩)
  all_goals go_wp2
  all_goals
    exact bodyPost_ret (v := .agg #[.int .u8 (224 + n / 256 / 256 / 256), .int .u8 (n / 256 / 256 % 256), .int .u8 (n / 256 % 256), .int .u8 (n % 256), .int .u8 (0), .int .u8 (0), .int .u8 (0), .int .u8 (0), .int .u8 (0)]) (by simp [results, Tryz.results81, go_sem]) rfl ⟨agg9 (by omega) (by omega) (by omega) (by omega) (by omega) (by omega) (by omega) (by omega) (by omega), (((Below.refl _ _).alloc (Nat.le_refl _) _).alloc (by simp) _).drew⟩
set_option maxHeartbeats 1000000 in
theorem lay5 (n : Int) (w : World) (h0 : 0 ≤ n) (h1 : n ≤ 34359738367) :
    Calls Tryz.prog 81 #[.int .u64 n, .int .i64 5] w fun e w' => e = .returned (.agg #[.int .u8 (240 + n / 4294967296), .int .u8 (n / 16777216 % 256), .int .u8 (n / 65536 % 256), .int .u8 (n / 256 % 256), .int .u8 (n % 256), .int .u8 (0), .int .u8 (0), .int .u8 (0), .int .u8 (0)]) ∧ Below w.heap.size w w' := by
  have hl : leadOf 5 = 240 := by decide +kernel
  have hx : bits .or .u8 (n / 256 / 256 / 256 / 256) 240 = 240 + (n / 256 / 256 / 256 / 256) := or_lead 4 (n / 256 / 256 / 256 / 256) 240 (by decide) hl (by omega) (by show n / 256 / 256 / 256 / 256 < 8; omega) (by omega)
  go_enter Tryz.func81, Tryz.ntmps81
  go_wp2
  refine wp_loop_rounds 6 ?_
  rw [rounds_succ]
  go_wp2
  rw [rounds_succ]
  go_wp2
  rw [rounds_succ]
  go_wp2
  rw [rounds_succ]
  go_wp2
  rw [rounds_succ]
  go_wp2
  rw [rounds_succ]
  go_wp2
  go_region_with (go_at_call 96; refine (lead_any 5 _ (by omega) (by omega)).mono ?_; rintro e w' ⟨rfl, rfl⟩)
  all_goals go_wp2
  all_goals
    exact bodyPost_ret (v := .agg #[.int .u8 (240 + n / 256 / 256 / 256 / 256), .int .u8 (n / 256 / 256 / 256 % 256), .int .u8 (n / 256 / 256 % 256), .int .u8 (n / 256 % 256), .int .u8 (n % 256), .int .u8 (0), .int .u8 (0), .int .u8 (0), .int .u8 (0)]) (by simp [results, Tryz.results81, go_sem]) rfl ⟨agg9 (by omega) (by omega) (by omega) (by omega) (by omega) (by omega) (by omega) (by omega) (by omega), (((Below.refl _ _).alloc (Nat.le_refl _) _).alloc (by simp) _).drew⟩
set_option maxHeartbeats 1000000 in
theorem lay6 (n : Int) (w : World) (h0 : 0 ≤ n) (h1 : n ≤ 4398046511103) :
    Calls Tryz.prog 81 #[.int .u64 n, .int .i64 6] w fun e w' => e = .returned (.agg #[.int .u8 (248 + n / 1099511627776), .int .u8 (n / 4294967296 % 256), .int .u8 (n / 16777216 % 256), .int .u8 (n / 65536 % 256), .int .u8 (n / 256 % 256), .int .u8 (n % 256), .int .u8 (0), .int .u8 (0), .int .u8 (0)]) ∧ Below w.heap.size w w' := by
  have hl : leadOf 6 = 248 := by decide +kernel
  have hx : bits .or .u8 (n / 256 / 256 / 256 / 256 / 256) 248 = 248 + (n / 256 / 256 / 256 / 256 / 256) := or_lead 5 (n / 256 / 256 / 256 / 256 / 256) 248 (by decide) hl (by omega) (by show n / 256 / 256 / 256 / 256 / 256 < 4; omega) (by omega)
  go_enter Tryz.func81, Tryz.ntmps81
  go_wp2
  refine wp_loop_rounds 7 ?_
  rw [rounds_succ]
  go_wp2
  rw [rounds_succ]
  go_wp2
  rw [rounds_succ]
  go_wp2
  rw [rounds_succ]
  go_wp2
  rw [rounds_succ]
  go_wp2
  rw [rounds_succ]
  go_wp2
  rw [rounds_succ]
  go_wp2
  go_region_with (go_at_call 96; refine (lead_any 6 _ (by omega) (by omega)).mono ?_; rintro e w' ⟨rfl, rfl⟩)
  all_goals go_wp2
  all_goals
    exact bodyPost_ret (v := .agg #[.int .u8 (248 + n / 256 / 256 / 256 / 256 / 256), .int .u8 (n / 256 / 256 / 256 / 256 % 256), .int .u8 (n / 256 / 256 / 256 % 256), .int .u8 (n / 256 / 256 % 256), .int .u8 (n / 256 % 256), .int .u8 (n % 256), .int .u8 (0), .int .u8 (0), .int .u8 (0)]) (by simp [results, Tryz.results81, go_sem]) rfl ⟨agg9 (by omega) (by omega) (by omega) (by omega) (by omega) (by omega) (by omega) (by omega) (by omega), (((Below.refl _ _).alloc (Nat.le_refl _) _).alloc (by simp) _).drew⟩
set_option maxHeartbeats 1000000 in
theorem lay7 (n : Int) (w : World) (h0 : 0 ≤ n) (h1 : n ≤ 562949953421311) :
    Calls Tryz.prog 81 #[.int .u64 n, .int .i64 7] w fun e w' => e = .returned (.agg #[.int .u8 (252 + n / 281474976710656), .int .u8 (n / 1099511627776 % 256), .int .u8 (n / 4294967296 % 256), .int .u8 (n / 16777216 % 256), .int .u8 (n / 65536 % 256), .int .u8 (n / 256 % 256), .int .u8 (n % 256), .int .u8 (0), .int .u8 (0)]) ∧ Below w.heap.size w w' := by
  have hl : leadOf 7 = 252 := by decide +kernel
  have hx : bits .or .u8 (n / 256 / 256 / 256 / 256 / 256 / 256) 252 = 252 + (n / 256 / 256 / 256 / 256 / 256 / 256) := or_lead 6 (n / 256 / 256 / 256 / 256 / 256 / 256) 252 (by decide) hl (by omega) (by show n / 256 / 256 / 256 / 256 / 256 / 256 < 2; omega) (by omega)
  go_enter Tryz.func81, Tryz.ntmps81
  go_wp2
  refine wp_loop_rounds 8 ?_
  rw [rounds_succ]
  go_wp2
  rw [rounds_succ]
  go_wp2
  rw [rounds_succ]
  go_wp2
  rw [rounds_succ]
  go_wp2
  rw [rounds_succ]
  go_wp2
  rw [rounds_succ]
  go_wp2
  rw [rounds_succ]
  go_wp2
  rw [rounds_succ]
  go_wp2
  go_region_with (go_at_call 96; refine (lead_any 7 _ (by omega) (by omega)).mono ?_; rintro e w' ⟨rfl, rfl⟩)
  all_goals go_wp2
  all_goals
    exact bodyPost_ret (v := .agg #[.int .u8 (252 + n / 256 / 256 / 256 / 256 / 256 / 256), .int .u8 (n / 256 / 256 / 256 / 256 / 256 % 256), .int .u8 (n / 256 / 256 / 256 / 256 % 256), .int .u8 (n / 256 / 256 / 256 % 256), .int .u8 (n / 256 / 256 % 256), .int .u8 (n / 256 % 256), .int .u8 (n % 256), .int .u8 (0), .int .u8 (0)]) (by simp [results, Tryz.results81, go_sem]) rfl ⟨agg9 (by omega) (by omega) (by omega) (by omega) (by omega) (by omega) (by omega) (by omega) (by omega), (((Below.refl _ _).alloc (Nat.le_refl _) _).alloc (by simp) _).drew⟩
set_option maxHeartbeats 1000000 in
theorem lay8 (n : Int) (w : World) (h0 : 0 ≤ n) (h1 : n ≤ 72057594037927935) :
    Calls Tryz.prog 81 #[.int .u64 n, .int .i64 8] w fun e w' => e = .returned (.agg #[.int .u8 (254 + n / 72057594037927936), .int .u8 (n / 281474976710656 % 256), .int .u8 (n / 1099511627776 % 256), .int .u8 (n / 4294967296 % 256), .int .u8 (n / 16777216 % 256), .int .u8 (n / 65536 % 256), .int .u8 (n / 256 % 256), .int .u8 (n % 256), .int .u8 (0)]) ∧ Below w.heap.size w w' := by
  have hl : leadOf 8 = 254 := by decide +kernel
  have hx : bits .or .u8 (n / 256 / 256 / 256 / 256 / 256 / 256 / 256) 254 = 254 + (n / 256 / 256 / 256 / 256 / 256 / 256 / 256) := or_lead 7 (n / 256 / 256 / 256 / 256 / 256 / 256 / 256) 254 (by decide) hl (by omega) (by show n / 256 / 256 / 256 / 256 / 256 / 256 / 256 < 1; omega) (by omega)
  go_enter Tryz.func81, Tryz.ntmps81
  go_wp2
  refine wp_loop_rounds 9 ?_
  rw [rounds_succ]
  go_wp2
  rw [rounds_succ]
  go_wp2
  rw [rounds_succ]
  go_wp2
  rw [rounds_succ]
  go_wp2
  rw [rounds_succ]
  go_wp2
  rw [rounds_succ]
  go_wp2
  rw [rounds_succ]
  go_wp2
  rw [rounds_succ]
  go_wp2
  rw [rounds_succ]
  go_wp2
  go_region_with (go_at_call 96; refine (lead_any 8 _ (by omega) (by omega)).mono ?_; rintro e w' ⟨rfl, rfl⟩)
  all_goals go_wp2
  all_goals
    exact bodyPost_ret (v := .agg #[.int .u8 (254 + n / 256 / 256 / 256 / 256 / 256 / 256 / 256), .int .u8 (n / 256 / 256 / 256 / 256 / 256 / 256), .int .u8 (n / 256 / 256 / 256 / 256 / 256 % 256), .int .u8 (n / 256 / 256 / 256 / 256 % 256), .int .u8 (n / 256 / 256 / 256 % 256), .int .u8 (n / 256 / 256 % 256), .int .u8 (n / 256 % 256), .int .u8 (n % 256), .int .u8 (0)]) (by simp [results, Tryz.results81, go_sem]) rfl ⟨agg9 (by omega) (by omega) (by omega) (by omega) (by omega) (by omega) (by omega) (by omega) (by omega), (((Below.refl _ _).alloc (Nat.le_refl _) _).alloc (by simp) _).drew⟩
set_option maxHeartbeats 1000000 in
theorem lay9 (n : Int) (w : World) (h0 : 0 ≤ n) (h1 : n ≤ 18446744073709551615) :
    Calls Tryz.prog 81 #[.int .u64 n, .int .i64 9] w fun e w' => e = .returned (.agg #[.int .u8 (255), .int .u8 (n / 72057594037927936 % 256), .int .u8 (n / 281474976710656 % 256), .int .u8 (n / 1099511627776 % 256), .int .u8 (n / 4294967296 % 256), .int .u8 (n / 16777216 % 256), .int .u8 (n / 65536 % 256), .int .u8 (n / 256 % 256), .int .u8 (n % 256)]) ∧ Below w.heap.size w w' := by
  have hl : leadOf 9 = 255 := by decide +kernel
  have hz : n / 256 / 256 / 256 / 256 / 256 / 256 / 256 / 256 = 0 := by omega
  have hx : bits .or .u8 0 255 = 255 := by decide +kernel
  go_enter Tryz.func81, Tryz.ntmps81
  go_wp2
  refine wp_loop_rounds 10 ?_
  rw [rounds_succ]
  go_wp2
  rw [rounds_succ]
  go_wp2
  rw [rounds_succ]
  go_wp2
  rw [rounds_succ]
  go_wp2
  rw [rounds_succ]
  go_wp2
  rw [rounds_succ]
  go_wp2
  rw [rounds_succ]
  go_wp2
  rw [rounds_succ]
  go_wp2
  rw [rounds_succ]
  go_wp2
  rw [rounds_succ]
  go_wp2
  go_region_with (go_at_call 96; refine (lead_any 9 _ (by omega) (by omega)).mono ?_; rintro e w' ⟨rfl, rfl⟩)
  all_goals go_wp2
  all_goals
    exact bodyPost_ret (v := .agg #[.int .u8 (255), .int .u8 (n / 256 / 256 / 256 / 256 / 256 / 256 / 256), .int .u8 (n / 256 / 256 / 256 / 256 / 256 / 256 % 256), .int .u8 (n / 256 / 256 / 256 / 256 / 256 % 256), .int .u8 (n / 256 / 256 / 256 / 256 % 256), .int .u8 (n / 256 / 256 / 256 % 256), .int .u8 (n / 256 / 256 % 256), .int .u8 (n / 256 % 256), .int .u8 (n % 256)]) (by simp [results, Tryz.results81, go_sem]) rfl ⟨agg9 (by omega) (by omega) (by omega) (by omega) (by omega) (by omega) (by omega) (by omega) (by omega), (((Below.refl _ _).alloc (Nat.le_refl _) _).alloc (by simp) _).drew⟩
end Go.Proofs.YthiegmhplnbdlaaGreat
