/- The document's Check and Encode of layer 9. -/
import Derived.Test.YtekoniaobmapdabG09
import Derived.Test.YtekoniaobmapdabVRefPut
namespace Go.Proofs.Ytekoniaobmapdab
open Go.RowKit SumPlain
set_option linter.unusedVariables false
set_option linter.unusedSimpArgs false

theorem refCheckB_any (l : List En) (v : Value) (w : World) (hv : EntsR w v l) :
    Calls Try.prog 41 #[v] w fun e w' => e = .returned (.int .i64 (chkB l)) ∧ Below w.heap.size w w' := by
  have HO : Hid (Calls Try.prog 16 #[v] w fun e w' => e = .returned (.int .i64 (ordE none l)) ∧ Hid (Below w.heap.size w w')) := refOrdered_any l v w hv
  obtain ⟨a, c, rfl, hc, hm⟩ := hv.len
  clear hv
  go_enter Try.func41, Try.ntmps41
  by_cases c1 : l.length < 1
  · have c1' : (l.length : Int) < 1 := by omega
    have HC : Hid ((3 : Int) = chkB l) := by unfold Hid chkB; rw [if_pos (.inl c1)]
    go_wp2
    go_ret
    exact ⟨ret_int HC.out, Below.refl _ _⟩
  · have c1' : ¬ (l.length : Int) < 1 := by omega
    by_cases c2 : 64 < l.length
    · have c2' : (64 : Int) < (l.length : Int) := by omega
      have HC : Hid ((3 : Int) = chkB l) := by unfold Hid chkB; rw [if_pos (.inr c2)]
      go_wp2
      go_ret
      exact ⟨ret_int HC.out, Below.refl _ _⟩
    · have c2' : ¬ (64 : Int) < (l.length : Int) := by omega
      have HC : Hid (ordE none l = chkB l) := by unfold Hid chkB; rw [if_neg (by omega)]
      go_wp2_with fail
      refine HO.out.mono ?_
      rintro e w1 ⟨rfl, b1⟩
      go_wp2
      go_ret
      exact ⟨ret_int HC.out, b1.out⟩

/-- The last key. -/
def lastK : List Int → List En → List Int
  | prev, [] => prev
  | _, x :: r => lastK (nums x.key) r
theorem bodyO_snoc : ∀ (l : List En) (i : Nat) (prev : List Int) (x : En), bodyO i prev (l ++ [x]) = bodyO i prev l ++ entO (shareN (i + l.length) (lastK prev l) x) x
  | [], i, prev, x => by simp [bodyO, lastK]
  | y :: r, i, prev, x => by
    simp only [List.cons_append, bodyO, lastK, List.length_cons]
    rw [bodyO_snoc r (i + 1) (nums y.key) x, List.append_assoc, show i + 1 + r.length = i + (r.length + 1) by omega]
theorem tailO_snoc : ∀ (l : List En) (i : Nat) (prev : List Int) (off : Nat) (x : En), tailO i prev off (l ++ [x]) = tailO i prev off l ++ (if (i + l.length) % 4 = 0 then [(((off + (bodyO i prev l).length) / 256 % 256 : Nat) : Int), (((off + (bodyO i prev l).length) % 256 : Nat) : Int)] else [])
  | [], i, prev, off, x => by simp [tailO, bodyO]
  | y :: r, i, prev, off, x => by
    simp only [List.cons_append, tailO, bodyO, List.length_cons]
    rw [tailO_snoc r (i + 1) (nums y.key) (off + (entO (shareN i prev y) y).length) x, List.append_assoc, show i + 1 + r.length = i + (r.length + 1) by omega, List.length_append]
    rw [show off + (entO (shareN i prev y) y).length + (bodyO (i + 1) (nums y.key) r).length = off + ((entO (shareN i prev y) y).length + (bodyO (i + 1) (nums y.key) r).length) by omega]
theorem lastK_take (l : List En) : ∀ (k : Nat) (y : En) (prev : List Int), l[k]? = some y → lastK prev (l.take (k + 1)) = nums y.key := by
  induction l with
  | nil => intro k y prev h; simp at h
  | cons z r ih =>
    intro k y prev h
    cases k with
    | zero => simp at h; subst h; simp [lastK]
    | succ k =>
      simp at h
      rw [List.take_succ_cons, lastK]
      exact ih k y _ h
theorem take_at {A : Type} (l : List A) (k : Nat) (x : A) (h : l[k]? = some x) : l.take (k + 1) = l.take k ++ [x] := by
  rw [List.take_add_one, h]
  rfl

theorem octets_len (n : Int) (h0 : 0 ≤ n) (h1 : n ≤ 18446744073709551615) : 1 ≤ (octets n).length ∧ (octets n).length ≤ 9 := by
  have := (octets_form n h0 h1).size
  have := size_bd n
  omega
theorem entO_len (n : Nat) (x : En) (h : mayE x = true) (hn : n ≤ (nums x.key).length) : (entO n x).length ≤ 645 := by
  obtain ⟨k1, k2, s1, s2, d1, d2, v1⟩ := mayE_le h
  have a1 := (octets_len (n : Int) (by omega) (by omega)).2
  have a2 := (octets_len (((nums x.key).length - n : Nat) : Int) (by omega) (by omega)).2
  have a3 := (octets_len x.seq (by omega) (by omega)).2
  have a4 := (octets_len ((nums x.val).length : Int) (by omega) (by omega)).2
  unfold entO
  simp only [List.length_append, List.length_cons, List.length_drop]
  omega
theorem bodyO_le : ∀ (l : List En) (i : Nat) (prev : List Int), (∀ x ∈ l, mayE x = true) → (bodyO i prev l).length ≤ 645 * l.length
  | [], _, _, _ => by simp [bodyO]
  | x :: r, i, prev, h => by
    unfold bodyO
    have h1 := bodyO_le r (i + 1) (nums x.key) (fun y hy => h y (by simp [hy]))
    have h2 := entO_len (shareN i prev x) x (h x (by simp)) (share_le i prev x).2.1
    rw [List.length_append, List.length_cons]
    omega

def OctL (l : List Int) : Prop := ∀ x ∈ l, 0 ≤ x ∧ x ≤ 255
theorem OctL.app {l r : List Int} (h : OctL l) (k : OctL r) : OctL (l ++ r) := fun x hx => by
  rcases List.mem_append.1 hx with q | q
  · exact h x q
  · exact k x q
theorem entO_oct (n : Nat) (x : En) (h : mayE x = true) (hn : n ≤ (nums x.key).length) : OctL (entO n x) := by
  obtain ⟨k1, k2, s1, s2, d1, d2, v1⟩ := mayE_le h
  unfold entO
  refine OctL.app (octets_form _ (by omega) (by omega)).octet (OctL.app (octets_form _ (by omega) (by omega)).octet (OctL.app (octets_form _ (by omega) (by omega)).octet (OctL.app (octets_form _ (by omega) (by omega)).octet ?_)))
  intro y hy
  rcases List.mem_cons.1 hy with rfl | hy
  · omega
  · exact OctL.app (fun z hz => nums_octet _ z (List.mem_of_mem_drop hz)) (nums_octet _) y hy
theorem bodyO_oct : ∀ (l : List En) (i : Nat) (prev : List Int), (∀ x ∈ l, mayE x = true) → OctL (bodyO i prev l)
  | [], _, _, _ => by intro y hy; simp [bodyO] at hy
  | x :: r, i, prev, h => by
    unfold bodyO
    exact OctL.app (entO_oct _ x (h x (by simp)) (share_le i prev x).2.1) (bodyO_oct r (i + 1) (nums x.key) (fun y hy => h y (by simp [hy])))
theorem tailO_oct : ∀ (l : List En) (i : Nat) (prev : List Int) (off : Nat), OctL (tailO i prev off l)
  | [], _, _, _ => by intro y hy; simp [tailO] at hy
  | x :: r, i, prev, off => by
    unfold tailO
    refine OctL.app ?_ (tailO_oct r _ _ _)
    split
    · intro y hy
      simp at hy
      omega
    · intro y hy; cases hy

theorem own_shape {w : World} {base : Nat} {v : Value} {l : List Int} (h : OwnB w base v l) : ∃ a n c, v = .slice a n c ∧ Hid (n = l.length) := by
  obtain ⟨a, c, e, _⟩ := own_len h
  exact ⟨a, _, c, e, rfl⟩

/-- Octets of two slices of the call's own, apart. -/
structure EnW (w : World) (vb vt : Value) (B T : List Int) (W : World) : Prop where
  ob : OwnB W w.heap.size vb B
  ot : OwnB W w.heap.size vt T
  ap : ∀ g, vb.ownBlock = some g → vt.ownBlock ≠ some g
  up : Below w.heap.size w W
theorem EnW.upw {w : World} {vb vt : Value} {B T : List Int} {W W' : World} (H : EnW w vb vt B T W) (h : Below W.heap.size W W') : EnW w vb vt B T W' := ⟨own_up H.ob h, own_up H.ot h, H.ap, up_trans H.up h⟩
theorem EnW.appB {w : World} {vb vt v' : Value} {B T B' : List Int} {W W' : World} (H : EnW w vb vt B T W) (ho : OwnB W' w.heap.size v' B') (hg : W.grownBy W' vb.ownBlock) (ha : v'.ownBlock = vb.ownBlock ∨ ∃ g, v'.ownBlock = some g ∧ W.heap.size ≤ g) : EnW w v' vt B' T W' := by
  refine ⟨ho, H.ot.kept hg ?_, ?_, H.up.grown hg H.up.size (fun j hj => (H.ob.lt j hj).1)⟩
  · cases h : vt.ownBlock with
    | none => exact .inl rfl
    | some g => exact .inr (fun e => H.ap g e.symm h)
  · intro g hg' ht
    rcases ha with ha | ⟨g2, ha, hge⟩
    · rw [ha] at hg'; exact H.ap g hg' ht
    · rw [ha] at hg'
      injection hg' with e
      have := (H.ot.lt g ht).2
      omega
theorem EnW.appT {w : World} {vb vt v' : Value} {B T T' : List Int} {W W' : World} (H : EnW w vb vt B T W) (ho : OwnB W' w.heap.size v' T') (hg : W.grownBy W' vt.ownBlock) (ha : v'.ownBlock = vt.ownBlock ∨ ∃ g, v'.ownBlock = some g ∧ W.heap.size ≤ g) : EnW w vb v' B T' W' := by
  refine ⟨H.ob.kept hg ?_, ho, ?_, H.up.grown hg H.up.size (fun j hj => (H.ot.lt j hj).1)⟩
  · cases h : vb.ownBlock with
    | none => exact .inl rfl
    | some g => exact .inr (fun e => H.ap g h e.symm)
  · intro g hg' ht
    rcases ha with ha | ⟨g2, ha, hge⟩
    · rw [ha] at ht; exact H.ap g hg' ht
    · rw [ha] at ht
      injection ht with e
      have := (H.ob.lt g hg').2
      omega
end Go.Proofs.Ytekoniaobmapdab
