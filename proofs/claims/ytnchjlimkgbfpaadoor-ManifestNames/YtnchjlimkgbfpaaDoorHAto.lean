/- strconv.Atoi and the names' numbers, plainly. -/
import Derived.Test.YtnchjlimkgbfpaaDoorHName
namespace Go.Proofs.YtnchjlimkgbfpaaDoor
open Go.RowKit
set_option linter.unusedVariables false
set_option linter.unusedSimpArgs false

def u8s (l : List Int) : List UInt8 := l.map fun n => UInt8.ofNat n.toNat
theorem val_ge : ∀ (l : List Int) (a : Int), (∀ x ∈ l, isDig x = true) → 0 ≤ a → a ≤ valF l a
  | [], a, _, _ => Int.le_refl _
  | x :: l, a, h, h0 => by
    have hx := isDig_iff.1 (h x List.mem_cons_self)
    have := val_ge l (10 * a + (x - 48)) (fun y hy => h y (List.mem_cons_of_mem _ hy)) (by omega)
    have e : valF (x :: l) a = valF l (10 * a + (x - 48)) := rfl
    omega
theorem parse10 : ∀ (l : List Int) (a : Nat), (∀ x ∈ l, isDig x = true) → valF l (a : Int) ≤ 2147483647 → Lib.parseUint10 a (u8s l) = .ok (valF l (a : Int)).toNat
  | [], a, _, _ => by simp [u8s, Lib.parseUint10, valF]
  | x :: l, a, h, hb => by
    have hx := isDig_iff.1 (h x List.mem_cons_self)
    have hl : ∀ y ∈ l, isDig y = true := fun y hy => h y (List.mem_cons_of_mem _ hy)
    have e : valF (x :: l) (a : Int) = valF l ((a * 10 + (x.toNat - 48) : Nat) : Int) := by
      show valF l (10 * (a : Int) + (x - 48)) = _
      congr 1
      omega
    have hg := val_ge l ((a * 10 + (x.toNat - 48) : Nat) : Int) hl (by omega)
    have hc : (UInt8.ofNat x.toNat).toNat = x.toNat := by
      rw [UInt8.toNat_ofNat']
      omega
    rw [e] at hb ⊢
    show Lib.parseUint10 a (UInt8.ofNat x.toNat :: u8s l) = _
    unfold Lib.parseUint10
    rw [hc, if_pos (by omega), if_neg (by omega), if_neg (by omega)]
    exact parse10 l _ hl hb
theorem atoi_digs {id : Int} (h : idOk id = true) : Lib.atoiAll (u8s (digs id.toNat)) = .ok id := by
  have hi : 1 ≤ id ∧ id ≤ 2147483647 := by simpa [idOk] using h
  obtain ⟨x, l, e, h1, h2⟩ := digs_head _ id.toNat (Nat.le_refl _) (by omega)
  have hv : valF (digs id.toNat) 0 = id := by rw [val_digs id.toNat id.toNat (Nat.le_refl _)]; omega
  have hp := parse10 (digs id.toNat) 0 (digs_dig _ _ (Nat.le_refl _)) (by rw [show ((0 : Nat) : Int) = 0 from rfl, hv]; exact hi.2)
  rw [show ((0 : Nat) : Int) = 0 from rfl, hv] at hp
  rw [e] at hp ⊢
  have hc : (UInt8.ofNat x.toNat).toNat = x.toNat := by
    rw [UInt8.toNat_ofNat']
    omega
  show Lib.atoiAll (UInt8.ofNat x.toNat :: u8s l) = _
  unfold Lib.atoiAll
  simp only
  rw [hc, if_neg (by omega)]
  have hm : Lib.parseMag (UInt8.ofNat x.toNat :: u8s l) = .ok id.toNat := by
    unfold Lib.parseMag
    rw [if_neg (by simp)]
    exact hp
  rw [hm]
  simp only
  rw [if_neg (by omega), if_neg (by omega), if_neg (by omega)]
  congr 1
  omega
/-- What Parse says, by what Atoi says. -/
theorem parse_ok {k v : Int} {l : List Int} (h : Lib.atoiAll (u8s l) = .ok v) : parseN (k :: l) = if kindOk k = true ∧ idOk v = true ∧ digs v.toNat = l then some (k, v) else none := by
  by_cases c : kindOk k = true ∧ idOk v = true ∧ digs v.toNat = l
  · rw [if_pos c, ← c.2.2]
    exact parse_name c.1 c.2.1
  · rw [if_neg c]
    cases hp : parseN (k :: l) with
    | none => rfl
    | some q =>
      obtain ⟨k', id⟩ := q
      obtain ⟨h1, h2, h3⟩ := name_parse hp
      injection h3 with h3 h4
      subst h3
      subst h4
      rw [atoi_digs h2] at h
      injection h with h
      subst h
      exact absurd ⟨h1, h2, rfl⟩ c
theorem parse_no {k : Int} {l : List Int} (h : ∀ v, Lib.atoiAll (u8s l) ≠ .ok v) : parseN (k :: l) = none := by
  cases hp : parseN (k :: l) with
  | none => rfl
  | some q =>
    obtain ⟨k', id⟩ := q
    obtain ⟨h1, h2, h3⟩ := name_parse hp
    injection h3 with h3 h4
    subst h4
    exact absurd (atoi_digs h2) (h id)
/-- What Parse returns. -/
def parR (o : Option (Int × Int)) : Value := match o with
  | none => .tuple #[.int .u8 0, .int .i64 0, .bool false]
  | some (k, n) => .tuple #[.int .u8 k, .int .i64 n, .bool true]
/-- The library's two errors. -/
def ErrV (w : World) : Prop := ∃ t1 p1 t2 p2, w.cell? ⟨0, 0, none⟩ = some (.iface t1 p1) ∧ w.cell? ⟨1, 0, none⟩ = some (.iface t2 p2) ∧ 2 ≤ w.heap.size
theorem ErrV.up {w w' : World} (h : ErrV w) (hb : Below w.heap.size w w') : ErrV w' := by
  obtain ⟨t1, p1, t2, p2, h1, h2, h3⟩ := h
  exact ⟨t1, p1, t2, p2, by rw [hb.cell (by show 0 < _; omega)]; exact h1, by rw [hb.cell (by show 1 < _; omega)]; exact h2, Nat.le_trans h3 hb.size⟩
def EnvL (w : World) : Prop := Tab w ∧ ErrV w
theorem EnvL.up {w w' : World} (h : EnvL w) (hb : Below w.heap.size w w') : EnvL w' := ⟨h.1.up hb, h.2.up hb⟩
theorem atoi_ok (l : List Int) (v : Int) (hl : l.length ≤ 140737488355328) (h : Lib.atoiAll (u8s l) = .ok v) (w : World) : Calls Tryd.prog 18 #[.string (strOfNums l)] w fun e w' => e = .returned (.tuple #[.int .i64 v, .nilIface]) ∧ Below w.heap.size w w' := by
  refine (Any.strconv_Atoi_ok Tryd.laysAt (strOfNums l) (by rw [strOfNums_size]; omega) v h w).mono ?_
  rintro e w' ⟨rfl, hw⟩
  refine ⟨rfl, ?_⟩
  rcases hw with rfl | ⟨t, rfl⟩
  · exact Below.refl _ _
  · exact Lib.bytesWorld_below _ _ _
theorem atoi_no (l : List Int) (hl : l.length ≤ 140737488355328) (h : ∀ v, Lib.atoiAll (u8s l) ≠ .ok v) (w : World) (he : ErrV w) : Calls Tryd.prog 18 #[.string (strOfNums l)] w fun e w' => ∃ n N, e = .returned (.tuple #[.int .i64 n, .iface 91 (.pointer (some ⟨N, 0, none⟩))]) ∧ Below w.heap.size w w' := by
  obtain ⟨t1, p1, t2, p2, h1, h2, h3⟩ := he
  cases ha : Lib.atoiAll (u8s l) with
  | ok v => exact absurd ha (h v)
  | «syntax» =>
    refine (Any.strconv_Atoi_syntax Tryd.laysAt (strOfNums l) (by rw [strOfNums_size]; omega) ha (.iface t1 p1) w h1 (Or.inr ⟨t1, p1, rfl⟩)).mono ?_
    rintro e w' ⟨N, rfl, _, _, hb⟩
    exact ⟨_, N, rfl, hb⟩
  | range =>
    refine (Any.strconv_Atoi_range Tryd.laysAt (strOfNums l) (by rw [strOfNums_size]; omega) ha (.iface t2 p2) w h2 (Or.inr ⟨t2, p2, rfl⟩)).mono ?_
    rintro e w' ⟨N, rfl, _, _, hb⟩
    exact ⟨_, N, rfl, hb⟩
end Go.Proofs.YtnchjlimkgbfpaaDoor
