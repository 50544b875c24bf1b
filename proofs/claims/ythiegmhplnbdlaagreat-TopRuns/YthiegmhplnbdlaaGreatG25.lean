/- Texts of layers 1 to 13, in this order. -/
import Derived.Test.YthiegmhplnbdlaaGreatG24
import Derived.Test.YthiegmhplnbdlaaGreatG09
import Derived.Test.YthiegmhplnbdlaaGreatG22
import Derived.Test.YthiegmhplnbdlaaGreatG10
import Derived.Test.YthiegmhplnbdlaaGreatG21
import Derived.Test.YthiegmhplnbdlaaGreatG12
import Derived.Lib.SlBytesConst

namespace Go.Proofs.YthiegmhplnbdlaaGreat
open Go.RowKit
set_option linter.unusedVariables false
set_option maxRecDepth 20000
set_option linter.unusedSimpArgs false
theorem and_or_zero (x y b : Nat) (h : ¬ (x &&& b) = 0) : ¬ ((x ||| y) &&& b) = 0 := by
  intro e
  refine h ?_
  rw [Nat.and_or_distrib_right] at e
  exact (Nat.or_eq_zero_iff.1 e).1
theorem or_self_bit (x b : Nat) (hb : b ≠ 0) : ¬ ((x ||| b) &&& b) = 0 := by
  rw [Nat.and_or_distrib_right, Nat.and_self]
  intro e
  exact hb (Nat.or_eq_zero_iff.1 e).2
theorem bit_pos (p : Nat) : bitN p ≠ 0 := by
  unfold bitN
  have : 0 < 2 ^ (p % 8) := Nat.pow_pos (by decide)
  omega
theorem setB_iff (l : List Int) (p : Nat) : setB l p = true ↔ ¬ ((l.getD (p / 8) 0).toNat &&& bitN p) = 0 := by
  unfold setB
  simp
theorem putL_get (l : List Int) (p o : Nat) (ho : o < l.length) : ((putL l p).getD o 0).toNat = if o = p / 8 then (l.getD o 0).toNat ||| bitN p else (l.getD o 0).toNat := by
  unfold putL
  by_cases h : o = p / 8
  · subst h
    rw [if_pos rfl]
    simp [List.getD, ho]
  · rw [if_neg h]
    have h' : ¬ p / 8 = o := fun e => h e.symm
    simp [List.getD, List.getElem?_set, h']
theorem setB_mono {l : List Int} {p q : Nat} (hq : q / 8 < l.length) (h : setB l q = true) : setB (putL l p) q = true := by
  rw [setB_iff] at h ⊢
  rw [putL_get l p _ hq]
  split
  · exact and_or_zero _ _ _ h
  · exact h
theorem setB_self {l : List Int} {p : Nat} (hp : p / 8 < l.length) : setB (putL l p) p = true := by
  rw [setB_iff, putL_get l p _ hp, if_pos rfl]
  exact or_self_bit _ _ (bit_pos p)
theorem setB_putI {h : Int} {n : Nat} {q : Nat} (hq : q / 8 < n) : ∀ (i : Nat) (l : List Int), l.length = n → setB l q = true → setB (putI h n i l) q = true
  | 0, l, _, hs => hs
  | i + 1, l, hl, hs => by
    rw [putI_succ]
    exact setB_mono (by rw [putI_len, hl]; exact hq) (setB_putI hq i l hl hs)
theorem setB_putI_self {h : Int} {n : Nat} (hn : 1 ≤ n) : ∀ (i : Nat) (l : List Int), l.length = n → ∀ j, j < i → setB (putI h n i l) (plc h j n) = true
  | 0, l, _, j, hj => absurd hj (by omega)
  | i + 1, l, hl, j, hj => by
    rw [putI_succ]
    by_cases e : j = i
    · subst e
      exact setB_self (by rw [putI_len, hl]; exact plc_lt hn)
    · exact setB_mono (by rw [putI_len, hl]; exact plc_lt hn) (setB_putI_self hn i l hl j (by omega))
theorem setB_fold {K n q : Nat} (hq : q / 8 < n) : ∀ (keys : List (List Int)) (l : List Int), l.length = n → setB l q = true → setB (keys.foldl (fun l key => putI (hashL key) n K l) l) q = true
  | [], l, _, h => h
  | k :: r, l, hl, h => setB_fold hq r _ (by rw [putI_len, hl]) (setB_putI hq K l hl h)
theorem setB_fold_mem {K n : Nat} (hn : 1 ≤ n) (key : List Int) (j : Nat) (hj : j < K) : ∀ (keys : List (List Int)) (l : List Int), l.length = n → key ∈ keys → setB (keys.foldl (fun l key => putI (hashL key) n K l) l) (plc (hashL key) j n) = true
  | [], l, _, h => by cases h
  | k :: r, l, hl, h => by
    rcases List.mem_cons.1 h with rfl | h
    · exact setB_fold (plc_lt hn) r _ (by rw [putI_len, hl]) (setB_putI_self hn K l hl j hj)
    · exact setB_fold_mem hn key j hj r _ (by rw [putI_len, hl]) h
theorem make_has {keys : List (List Int)} {K n : Nat} (hn : 1 ≤ n) {key : List Int} (hk : key ∈ keys) : hasF (hashL key) K n (makeL keys K n) = true :=
  hasF_true fun j hj => setB_fold_mem hn key j hj keys _ (by simp) hk
theorem make_may {keys : List (List Int)} {each : Int} (he : errM each keys.length = 0) : mayB (makeR keys each).1 (makeR keys each).2.length = true ∧ ∀ key ∈ keys, hasF (hashL key) (makeR keys each).1.toNat (makeR keys each).2.length (makeR keys each).2 = true := by
  have h : each ≥ 1 ∧ each ≤ 16 ∧ keys.length ≤ 4096 := by
    unfold errM at he
    split at he
    · simp at he
    · split at he
      · simp at he
      · omega
  obtain ⟨n1, n2⟩ := nOf_le h.2.2 (show each.toNat ≤ 16 by omega)
  obtain ⟨k1, k2⟩ := kOf_le each.toNat
  have e : makeR keys each = (((kOf each.toNat : Nat) : Int), makeL keys (kOf each.toNat) (nOf keys.length each.toNat)) := by unfold makeR; rw [if_pos he]
  rw [e]
  simp only [makeL_len, Int.toNat_natCast]
  refine ⟨?_, fun key hk => make_has n1 hk⟩
  unfold mayB
  simp
  omega
end Go.Proofs.YthiegmhplnbdlaaGreat

namespace Go.Proofs.YthiegmhplnbdlaaGreat
open Go.RowKit SumPlain
set_option linter.unusedVariables false
def sameKT : Option (List Int) → List Int → Bool
  | none, _ => false
  | some q, k => q == k
def keysT : Option (List Int) → List En → List (List Int)
  | _, [] => []
  | p, x :: r => cond (sameKT p (nums x.key)) [] [nums x.key] ++ keysT (some (nums x.key)) r
def fourL (n : Nat) : List Int := [((n / 16777216 % 256 : Nat) : Int), ((n / 65536 % 256 : Nat) : Int), ((n / 256 % 256 : Nat) : Int), ((n % 256 : Nat) : Int)]
def numL (l : List Int) : Nat := (l.getD 0 0).toNat * 16777216 + (l.getD 1 0).toNat * 65536 + (l.getD 2 0).toNat * 256 + (l.getD 3 0).toNat
theorem num_four (n : Nat) (h : n < 4294967296) (r : List Int) : numL (fourL n ++ r) = n := by
  unfold numL fourL
  simp
  omega
theorem four_len (n : Nat) : (fourL n).length = 4 := rfl
theorem four_oct (n : Nat) : OctL (fourL n) := by
  unfold fourL OctL
  intro x hx
  simp at hx
  omega
def chunkT (l : List En) (j : Nat) : List En := (l.drop (16 * j)).take 16
def manyT (l : List En) : Nat := (l.length + 15) / 16
def firstT (c : List En) : List Int := match c with | [] => [] | x :: _ => nums x.key
def idxE (c : List En) : List Int := octets ((encB c).1.length : Int) ++ (octets ((firstT c).length : Int) ++ firstT c)
def blkT (l : List En) (m : Nat) : List Int := (List.range m).flatMap fun j => (encB (chunkT l j)).1
def idxT (l : List En) (m : Nat) : List Int := (List.range m).flatMap fun j => idxE (chunkT l j)
theorem blkT_succ (l : List En) (m : Nat) : blkT l (m + 1) = blkT l m ++ (encB (chunkT l m)).1 := by
  unfold blkT; rw [List.range_succ, List.flatMap_append]; simp
theorem idxT_succ (l : List En) (m : Nat) : idxT l (m + 1) = idxT l m ++ idxE (chunkT l m) := by
  unfold idxT; rw [List.range_succ, List.flatMap_append]; simp
def filT (l : List En) : Int × List Int := makeR (keysT none l) 10
def fr2 (l : List En) : List Int := frameOf 2 (idxT l (manyT l))
def fr3 (l : List En) : List Int := frameOf 3 (encL (filT l).1 (filT l).2)
def footO (at' to' n : Nat) : List Int := guardOf ([116, 107, 116, 98] ++ (fourL at' ++ (fourL to' ++ fourL n)))
def atT (l : List En) : Nat := (blkT l (manyT l)).length
def toT (l : List En) : Nat := atT l + (fr2 l).length
def tabO (l : List En) : List Int := blkT l (manyT l) ++ (fr2 l ++ (fr3 l ++ footO (atT l) (toT l) l.length))
def chkT (l : List En) : Int := if l.length < 1 ∨ 4096 < l.length then 3 else ordE none l
def buildB (l : List En) : List Int × Int := if chkT l = 0 then (tabO l, 0) else ([], chkT l)
def toldT : Nat → List Int → Nat → List Int → Nat → List En → List En
  | 0, _, _, _, _, out => out
  | f + 1, b, at', x, pos, out => if x = [] ∨ 4096 < out.length then out else
    if (getOf x).2.2 ≠ 0 ∨ ((at' - pos : Nat) : Int) < (getOf x).1 then [] else
      if (getOf (x.drop (getOf x).2.1.toNat)).2.2 ≠ 0 ∨ ((x.drop (getOf x).2.1.toNat).length : Int) - (getOf (x.drop (getOf x).2.1.toNat)).2.1 < (getOf (x.drop (getOf x).2.1.toNat)).1 then [] else
        if (decB ((b.drop pos).take (getOf x).1.toNat)).2 ≠ 0 then [] else
          toldT f b at' (x.drop ((getOf x).2.1.toNat + ((getOf (x.drop (getOf x).2.1.toNat)).2.1.toNat + (getOf (x.drop (getOf x).2.1.toNat)).1.toNat))) (pos + (getOf x).1.toNat) (out ++ (decB ((b.drop pos).take (getOf x).1.toNat)).1)
def toldX (b : List Int) (at' to' : Nat) : List En :=
  if to' < at' ∨ b.length < to' then [] else
    if (fget ((b.drop at').take (to' - at'))).2.2.2 ≠ 0 then [] else
      toldT (b.length + 1) b at' (fget ((b.drop at').take (to' - at'))).2.1 0 []
def footL (b : List Int) : List Int := b.drop (b.length - 20)
def openB (b : List Int) : List En × (Int × List Int) × Int :=
  if b.length < 20 then ([], (0, []), 8) else
    if (bareOf (footL b)).2 ≠ 0 then ([], (0, []), (bareOf (footL b)).2) else
      if (bareOf (footL b)).1.take 4 ≠ [116, 107, 116, 98] then ([], (0, []), 22) else
        if buildB (toldX b (numL ((bareOf (footL b)).1.drop 4)) (numL ((bareOf (footL b)).1.drop 8))) = (b, 0) then
          (toldX b (numL ((bareOf (footL b)).1.drop 4)) (numL ((bareOf (footL b)).1.drop 8)), filT (toldX b (numL ((bareOf (footL b)).1.drop 4)) (numL ((bareOf (footL b)).1.drop 8))), 0)
        else ([], (0, []), 21)
theorem encB_len' (l : List En) : (encB l).1.length ≤ 41500 := by
  unfold encB
  by_cases h : chkB l = 0
  · rw [if_pos h]
    obtain ⟨l1, l2, hm⟩ := chkB_may h
    have h1 := bodyO_le l 0 [] hm
    have h2 := tailO_len l 0 [] 0
    simp only [guard_len, blockO, List.length_append, List.length_cons, List.length_nil]
    omega
  · rw [if_neg h]; simp
theorem encB_pos {l : List En} (h : chkB l = 0) : 5 ≤ (encB l).1.length := by
  unfold encB
  rw [if_pos h]
  simp only [guard_len, blockO, List.length_append, List.length_cons, List.length_nil]
  omega
theorem ordE_app : ∀ (a b : List En) (p : Option En), ordE p (a ++ b) = 0 → ordE p a = 0 ∧ ∃ q, ordE q b = 0 ∧ (a = [] → q = p)
  | [], b, p, h => ⟨rfl, p, h, fun _ => rfl⟩
  | x :: a, b, p, h => by
    rw [List.cons_append, ordE] at h
    rw [ordE]
    by_cases hm : mayE x = true
    · rw [if_pos hm] at h ⊢
      by_cases ha : aheadE p x = true
      · rw [if_pos ha] at h ⊢
        obtain ⟨h1, q, h2, _⟩ := ordE_app a b (some x) h
        exact ⟨h1, q, h2, fun e => by cases e⟩
      · rw [if_neg ha] at h; cases h
    · rw [if_neg hm] at h; cases h
theorem ordE_any : ∀ (l : List En) (p : Option En), ordE p l = 0 → ordE none l = 0
  | [], p, _ => rfl
  | x :: r, p, h => by
    rw [ordE] at h ⊢
    by_cases hm : mayE x = true
    · rw [if_pos hm] at h ⊢
      by_cases ha : aheadE p x = true
      · rw [if_pos ha] at h
        rw [if_pos (show aheadE none x = true from rfl)]
        exact h
      · rw [if_neg ha] at h; cases h
    · rw [if_neg hm] at h; cases h
theorem ordE_drop {l : List En} (h : ordE none l = 0) (k : Nat) : ordE none (l.drop k) = 0 := by
  have h' : ordE none (l.take k ++ l.drop k) = 0 := by rw [List.take_append_drop]; exact h
  obtain ⟨_, q, h2, _⟩ := ordE_app _ _ _ h'
  exact ordE_any _ q h2
theorem ordE_take {l : List En} (h : ordE none l = 0) (k : Nat) : ordE none (l.take k) = 0 := by
  have h' : ordE none (l.take k ++ l.drop k) = 0 := by rw [List.take_append_drop]; exact h
  exact (ordE_app _ _ _ h').1
theorem chunk_len (l : List En) (j : Nat) : (chunkT l j).length = min 16 (l.length - 16 * j) := by unfold chunkT; simp
theorem chunk_chk {l : List En} (h : ordE none l = 0) {j : Nat} (hj : 16 * j < l.length) : chkB (chunkT l j) = 0 := by
  unfold chkB
  rw [if_neg (by rw [chunk_len]; omega)]
  exact ordE_take (ordE_drop h _) _
theorem blkT_more (l : List En) (j : Nat) : ∀ n, ∃ more, blkT l (j + n) = blkT l j ++ more
  | 0 => ⟨[], by simp⟩
  | n + 1 => by
    obtain ⟨m, h⟩ := blkT_more l j n
    refine ⟨m ++ (encB (chunkT l (j + n))).1, ?_⟩
    rw [← Nat.add_assoc, blkT_succ, h, List.append_assoc]
def idxR (l : List En) (j n : Nat) : List Int := (List.range' j n).flatMap fun i => idxE (chunkT l i)
theorem idxR_succ (l : List En) (j n : Nat) : idxR l j (n + 1) = idxE (chunkT l j) ++ idxR l (j + 1) n := by
  unfold idxR; rw [List.range'_succ]; simp
theorem idxR_all (l : List En) (m : Nat) : idxR l 0 m = idxT l m := by
  unfold idxR idxT; rw [List.range_eq_range']
theorem firstT_len {c : List En} (h : chkB c = 0) : (firstT c).length ≤ 96 := by
  obtain ⟨h1, h2, hm⟩ := chkB_may h
  cases c with
  | nil => simp at h1
  | cons x r => exact (mayE_le (hm x (by simp))).2.1
theorem idxE_ne (c : List En) (r : List Int) : idxE c ++ r ≠ [] := by
  have := octets_len ((encB c).1.length : Int) (by omega) (by have := encB_len' c; omega)
  intro q
  have h := congrArg List.length q
  unfold idxE at h
  simp only [List.length_append, List.length_nil] at h
  omega
theorem toldT_back (l : List En) (hl : ordE none l = 0) (hn : l.length ≤ 4096) : ∀ (n j : Nat) (f : Nat) (rest : List Int), (∀ i, i < j + n → 16 * i < l.length) → n < f →
    toldT f (blkT l (j + n) ++ rest) (blkT l (j + n)).length (idxR l j n) (blkT l j).length (l.take (16 * j)) = l.take (16 * (j + n))
  | 0, j, f, rest, _, hf => by
    obtain ⟨g, rfl⟩ : ∃ g, f = g + 1 := ⟨f - 1, by omega⟩
    rw [toldT, if_pos (.inl rfl)]
    simp
  | n + 1, j, f, rest, hi, hf => by
    obtain ⟨g, rfl⟩ : ∃ g, f = g + 1 := ⟨f - 1, by omega⟩
    have hj := hi j (by omega)
    have hc := chunk_chk hl hj
    have hlen := encB_len' (chunkT l j)
    have hfl := firstT_len hc
    obtain ⟨more, hm⟩ := blkT_more l (j + 1) n
    have hb : blkT l (j + (n + 1)) = blkT l j ++ ((encB (chunkT l j)).1 ++ more) := by
      rw [show j + (n + 1) = j + 1 + n by omega, hm, blkT_succ, List.append_assoc]
    have hx : idxR l j (n + 1) = octets ((encB (chunkT l j)).1.length : Int) ++ (octets ((firstT (chunkT l j)).length : Int) ++ (firstT (chunkT l j) ++ idxR l (j + 1) n)) := by
      rw [idxR_succ]; unfold idxE; simp
    have hne : idxR l j (n + 1) ≠ [] := by rw [idxR_succ]; exact idxE_ne _ _
    have g1 := getOf_octets ((encB (chunkT l j)).1.length : Int) (by omega) (by omega) (octets ((firstT (chunkT l j)).length : Int) ++ (firstT (chunkT l j) ++ idxR l (j + 1) n))
    have g2 := getOf_octets ((firstT (chunkT l j)).length : Int) (by omega) (by omega) (firstT (chunkT l j) ++ idxR l (j + 1) n)
    have hd : ((blkT l (j + (n + 1)) ++ rest).drop (blkT l j).length).take (encB (chunkT l j)).1.length = (encB (chunkT l j)).1 := by
      rw [hb, List.append_assoc, List.drop_left, List.append_assoc, List.take_left]
    have hdec := dec_encB hc
    have hlb : (blkT l (j + (n + 1))).length = (blkT l j).length + ((encB (chunkT l j)).1.length + more.length) := by rw [hb]; simp
    have IH := toldT_back l hl hn n (j + 1) g rest (fun i h => hi i (by omega)) (by omega)
    rw [show j + 1 + n = j + (n + 1) by omega] at IH
    have hpos : (blkT l (j + 1)).length = (blkT l j).length + (encB (chunkT l j)).1.length := by rw [blkT_succ]; simp
    have htk : l.take (16 * (j + 1)) = l.take (16 * j) ++ chunkT l j := by
      unfold chunkT; rw [← List.take_add, show 16 * j + 16 = 16 * (j + 1) by omega]
    rw [hpos, htk] at IH
    rw [toldT, if_neg (by
      rintro (h | h)
      · exact hne h
      · simp at h; omega)]
    rw [hx, g1]
    simp only [Int.toNat_natCast]
    rw [if_neg (by
      rintro (h | h)
      · exact h rfl
      · rw [hlb] at h; omega)]
    rw [List.drop_left, g2]
    simp only [Int.toNat_natCast]
    rw [if_neg (by
      rintro (h | h)
      · exact h rfl
      · simp at h; omega)]
    rw [hd, hdec]
    simp only
    rw [if_neg (by simp)]
    have hdr : (octets ((encB (chunkT l j)).1.length : Int) ++ (octets ((firstT (chunkT l j)).length : Int) ++ (firstT (chunkT l j) ++ idxR l (j + 1) n))).drop ((octets ((encB (chunkT l j)).1.length : Int)).length + ((octets ((firstT (chunkT l j)).length : Int)).length + (firstT (chunkT l j)).length)) = idxR l (j + 1) n := by
      rw [← List.drop_drop, List.drop_left, ← List.drop_drop, List.drop_left, List.drop_left]
    rw [hdr]
    exact IH
theorem many_le {l : List En} : (∀ i, i < manyT l → 16 * i < l.length) ∧ l.length ≤ 16 * manyT l := by unfold manyT; exact ⟨fun i h => by omega, by omega⟩
theorem idxE_len {c : List En} (h : chkB c = 0) : (idxE c).length ≤ 114 := by
  have h1 := octets_len ((encB c).1.length : Int) (by omega) (by have := encB_len' c; omega)
  have h2 := octets_len ((firstT c).length : Int) (by omega) (by have := firstT_len h; omega)
  have h3 := firstT_len h
  unfold idxE
  simp
  omega
theorem idxT_len {l : List En} (hl : ordE none l = 0) : ∀ m, (∀ i, i < m → 16 * i < l.length) → (idxT l m).length ≤ 114 * m
  | 0, _ => by simp [idxT]
  | m + 1, h => by
    have := idxT_len hl m (fun i hi => h i (by omega))
    have := idxE_len (chunk_chk hl (h m (by omega)))
    rw [idxT_succ]
    simp
    omega
theorem blkT_len (l : List En) : ∀ m, (blkT l m).length ≤ 41500 * m
  | 0 => by simp [blkT]
  | m + 1 => by
    have := blkT_len l m
    have := encB_len' (chunkT l m)
    rw [blkT_succ]
    simp
    omega
theorem blkT_len' (l : List En) (hl : ordE none l = 0) : ∀ m, (∀ i, i < m → 16 * i < l.length) → m ≤ (blkT l m).length
  | 0, _ => by simp
  | m + 1, h => by
    have := blkT_len' l hl m (fun i hi => h i (by omega))
    have := encB_pos (chunk_chk hl (h m (by omega)))
    rw [blkT_succ]
    simp
    omega
theorem chkT_ok {l : List En} (h : chkT l = 0) : 1 ≤ l.length ∧ l.length ≤ 4096 ∧ ordE none l = 0 := by
  unfold chkT at h
  by_cases hc : l.length < 1 ∨ 4096 < l.length
  · rw [if_pos hc] at h; cases h
  · rw [if_neg hc] at h; exact ⟨by omega, by omega, h⟩
theorem many_256 {l : List En} (h : l.length ≤ 4096) : manyT l ≤ 256 := by unfold manyT; omega
theorem fr2_len {l : List En} (h : chkT l = 0) : (fr2 l).length ≤ 29198 ∧ (idxT l (manyT l)).length ≤ 29184 := by
  obtain ⟨h1, h2, h3⟩ := chkT_ok h
  have a := idxT_len h3 (manyT l) many_le.1
  have b := many_256 h2
  have c := frame_len 2 (idxT l (manyT l))
  have d := octets_len ((idxT l (manyT l)).length : Int) (by omega) (by omega)
  unfold fr2
  constructor <;> omega
theorem at_len {l : List En} (h : chkT l = 0) : atT l ≤ 10624000 ∧ toT l ≤ 10653198 := by
  obtain ⟨h1, h2, h3⟩ := chkT_ok h
  have a := blkT_len l (manyT l)
  have b := many_256 h2
  have c := (fr2_len h).1
  unfold toT atT
  constructor <;> omega
theorem told_tab {l : List En} (h : chkT l = 0) : toldX (tabO l) (atT l) (toT l) = l := by
  obtain ⟨h1, h2, h3⟩ := chkT_ok h
  have hf := fr2_len h
  have hto : toT l = atT l + (fr2 l).length := rfl
  have hlen : (tabO l).length = (blkT l (manyT l)).length + ((fr2 l).length + ((fr3 l).length + (footO (atT l) (toT l) l.length).length)) := by unfold tabO; simp
  have hat : atT l = (blkT l (manyT l)).length := rfl
  unfold toldX
  rw [if_neg (by rw [hlen]; omega)]
  have hd : ((tabO l).drop (atT l)).take (toT l - atT l) = fr2 l := by
    unfold tabO
    rw [show toT l - atT l = (fr2 l).length by omega, show (blkT l (manyT l) ++ (fr2 l ++ (fr3 l ++ footO (atT l) (toT l) l.length))).drop (atT l) = fr2 l ++ (fr3 l ++ footO (atT l) (toT l) l.length) from List.drop_left, List.take_left]
  have hg := fget_back 2 (idxT l (manyT l)) [] (by omega)
  rw [List.append_nil] at hg
  rw [hd]
  rw [show fget (fr2 l) = (2, idxT l (manyT l), ((fr2 l).length : Int), 0) from hg]
  simp only
  rw [if_neg (by simp)]
  have hb := toldT_back l h3 h2 (manyT l) 0 ((tabO l).length + 1) (fr2 l ++ (fr3 l ++ footO (atT l) (toT l) l.length)) (fun i hi => many_le.1 i (by omega)) (by
    have := blkT_len' l h3 (manyT l) many_le.1
    rw [hlen]; omega)
  rw [Nat.zero_add, idxR_all] at hb
  have e0 : (blkT l 0).length = 0 := rfl
  rw [e0] at hb
  have e1 : l.take (16 * 0) = [] := rfl
  rw [e1] at hb
  have e2 : l.take (16 * manyT l) = l := List.take_of_length_le many_le.2
  rw [e2] at hb
  exact hb
theorem foot_len (a t n : Nat) : (footO a t n).length = 20 := by
  unfold footO
  rw [guard_len]
  rfl
theorem foot_tab (l : List En) : footL (tabO l) = footO (atT l) (toT l) l.length := by
  unfold footL tabO
  have hf := foot_len (atT l) (toT l) l.length
  generalize footO (atT l) (toT l) l.length = F at *
  rw [← List.append_assoc, ← List.append_assoc, List.length_append, hf, Nat.add_sub_cancel, List.drop_left]
theorem foot_bare (a t n : Nat) : bareOf (footO a t n) = ([116, 107, 116, 98] ++ (fourL a ++ (fourL t ++ fourL n)), 0) := bare_guard _
theorem open_tab {l : List En} (h : chkT l = 0) : openB (tabO l) = (l, filT l, 0) := by
  have hlen : 20 ≤ (tabO l).length := by
    unfold tabO
    simp [foot_len]
    omega
  have hl := at_len h
  have e4 : ([116, 107, 116, 98] ++ (fourL (atT l) ++ (fourL (toT l) ++ fourL l.length))).drop 4 = fourL (atT l) ++ (fourL (toT l) ++ fourL l.length) := rfl
  have e8 : ([116, 107, 116, 98] ++ (fourL (atT l) ++ (fourL (toT l) ++ fourL l.length))).drop 8 = fourL (toT l) ++ fourL l.length := rfl
  have hB : buildB l = (tabO l, 0) := by unfold buildB; rw [if_pos h]
  unfold openB
  rw [if_neg (by omega), foot_tab, foot_bare]
  simp only
  rw [if_neg (by simp), if_neg (by simp), e4, e8, num_four _ (by omega), num_four _ (by omega), told_tab h, if_pos hB]
end Go.Proofs.YthiegmhplnbdlaaGreat

namespace Go.Proofs.YthiegmhplnbdlaaGreat
open Go.RowKit SumPlain
set_option linter.unusedVariables false
set_option linter.unusedSimpArgs false
def lastKT : Option (List Int) → List En → Option (List Int)
  | p, [] => p
  | _, x :: r => lastKT (some (nums x.key)) r
theorem keysT_snoc : ∀ (l : List En) (p : Option (List Int)) (x : En), keysT p (l ++ [x]) = keysT p l ++ cond (sameKT (lastKT p l) (nums x.key)) [] [nums x.key]
  | [], p, x => by simp [keysT, lastKT]
  | y :: r, p, x => by
    simp only [List.cons_append, keysT, lastKT]
    rw [keysT_snoc r (some (nums y.key)) x, List.append_assoc]
theorem lastKT_take (l : List En) : ∀ (k : Nat) (y : En) (p : Option (List Int)), l[k]? = some y → lastKT p (l.take (k + 1)) = some (nums y.key) := by
  induction l with
  | nil => intro k y p h; simp at h
  | cons z r ih =>
    intro k y p h
    cases k with
    | zero => simp at h; subst h; simp [lastKT]
    | succ k =>
      simp at h
      rw [List.take_succ_cons, lastKT]
      exact ih k y _ h
theorem keysT_len : ∀ (l : List En) (p : Option (List Int)), (keysT p l).length ≤ l.length
  | [], p => by simp [keysT]
  | x :: r, p => by
    have := keysT_len r (some (nums x.key))
    simp only [keysT, List.length_append, List.length_cons]
    cases sameKT p (nums x.key) <;> simp <;> omega
theorem keysT_oct : ∀ (l : List En) (p : Option (List Int)), ∀ s ∈ keysT p l, ∃ x ∈ l, s = nums x.key
  | [], p, s, h => by simp [keysT] at h
  | x :: r, p, s, h => by
    rw [keysT] at h
    rcases List.mem_append.1 h with q | q
    · cases hs : sameKT p (nums x.key) with
      | true => rw [hs] at q; cases q
      | false => rw [hs] at q; simp at q; exact ⟨x, by simp, q⟩
    · obtain ⟨y, hy, e⟩ := keysT_oct r _ s q
      exact ⟨y, by simp [hy], e⟩
theorem nums_eq_iff (a b : ByteArray) : nums a = nums b ↔ a.toList = b.toList := by
  constructor
  · intro h
    have := congrArg strOfNums h
    rw [str_nums, str_nums] at this
    rw [this]
  · intro h
    have e : a.data.toList = b.data.toList := by simpa [ByteArray.toList_eq] using h
    unfold nums
    rw [e]
theorem srow_one (s : List Int) : ∀ r ∈ [srow s], ∀ u ∈ r, u.oneCell' = true := by
  intro r hr u hu
  simp at hr
  subst hr
  simp [srow] at hu
  subst hu
  rfl
theorem Tryz.info9 : (Tryz.prog.info? 9).map (fun i => (i.zero, i.size, i.bytes)) = some (some (.string ⟨#[]⟩), 1, 16) := by kernel_rfl
end Go.Proofs.YthiegmhplnbdlaaGreat

namespace Go.Proofs.YthiegmhplnbdlaaGreat
open Go.RowKit SumPlain
set_option linter.unusedVariables false
set_option linter.unusedSimpArgs false
theorem ents_mid {W : World} {b off c : Nat} {l : List En} (h : EntsR W (.slice (some ⟨b, off, none⟩) l.length c) l) (p q : Nat) (hp : p ≤ q) (hq : q ≤ l.length) (hlt : p < l.length) : EntsR W (.slice (if c = p then some ⟨b, off, none⟩ else some ⟨b, off + p * 4, none⟩) (q - p) (c - p)) ((l.drop p).take (q - p)) := by
  obtain ⟨a0, c0, e, hc, hm⟩ := h.len
  simp only [Value.slice.injEq] at e
  have hcc : l.length ≤ c := by rw [e.2.2]; exact hc
  clear e hc hm a0 c0
  rw [if_neg (by omega)]
  obtain ⟨h1, a, cap, e, h2, h3, h4, h5⟩ := h
  simp only [Value.slice.injEq, List.length_map] at e
  obtain ⟨rfl, _, rfl⟩ := e
  obtain ⟨b', off', e2, hcell⟩ := h5 (by intro e0; rw [List.map_eq_nil_iff] at e0; rw [e0] at hlt; simp at hlt)
  simp only [Option.some.injEq, Addr.mk.injEq] at e2
  obtain ⟨rfl, rfl, _⟩ := e2
  refine ⟨?_, some ⟨b, off + p * 4, none⟩, c - p, ?_, ?_, by omega, (fun q => by cases q), ?_⟩
  · intro cs hcs
    obtain ⟨x, _, rfl⟩ := List.mem_map.1 hcs
    rfl
  · simp; omega
  · simp; omega
  · intro _
    refine ⟨b, off + p * 4, rfl, fun j cs hj i u hi => ?_⟩
    rw [List.getElem?_map] at hj
    cases hx : ((l.drop p).take (q - p))[j]? with
    | none => rw [hx] at hj; simp at hj
    | some y =>
      rw [hx] at hj
      simp at hj
      subst hj
      have hy : l[p + j]? = some y := by
        rw [List.getElem?_take] at hx
        split at hx
        · rw [List.getElem?_drop] at hx; exact hx
        · cases hx
      have := hcell (p + j) (enRow y) (by rw [List.getElem?_map, hy]; rfl) i u hi
      rw [show off + p * 4 + j * 4 + i = off + (p + j) * 4 + i by omega]
      exact this
end Go.Proofs.YthiegmhplnbdlaaGreat

namespace Go.Proofs.YthiegmhplnbdlaaGreat
open Go.RowKit SumPlain
set_option linter.unusedVariables false
theorem buildB_ok {l : List En} {b : List Int} (h : buildB l = (b, 0)) : chkT l = 0 ∧ tabO l = b := by
  unfold buildB at h
  by_cases hc : chkT l = 0
  · rw [if_pos hc] at h
    simp only [Prod.mk.injEq, and_true] at h
    exact ⟨hc, h⟩
  · rw [if_neg hc] at h
    simp only [Prod.mk.injEq] at h
    exact absurd h.2 hc
theorem frame_oct (k : Int) (l : List Int) (hk : 0 ≤ k ∧ k ≤ 255) (hl : ∀ x ∈ l, 0 ≤ x ∧ x ≤ 255) (hn : l.length ≤ 65536) : ∀ x ∈ frameOf k l, 0 ≤ x ∧ x ≤ 255 := by
  refine guard_octet _ ?_
  intro x hx
  rcases List.mem_append.1 hx with q | q
  · exact (octets_form (l.length : Int) (by omega) (by omega)).octet x q
  · rcases List.mem_cons.1 q with rfl | q
    · exact hk
    · exact hl x q
theorem idxE_oct {c : List En} (h : chkB c = 0) : ∀ x ∈ idxE c, 0 ≤ x ∧ x ≤ 255 := by
  intro x hx
  unfold idxE at hx
  have hl := encB_len' c
  have hf := firstT_len h
  rcases List.mem_append.1 hx with q | q
  · exact (octets_form ((encB c).1.length : Int) (by omega) (by omega)).octet x q
  · rcases List.mem_append.1 q with q | q
    · exact (octets_form ((firstT c).length : Int) (by omega) (by omega)).octet x q
    · unfold firstT at q
      cases c with
      | nil => cases q
      | cons y r => exact nums_octet y.key x q
theorem idxT_oct {l : List En} (h : chkT l = 0) : ∀ x ∈ idxT l (manyT l), 0 ≤ x ∧ x ≤ 255 := by
  obtain ⟨h1, h2, h3⟩ := chkT_ok h
  intro x hx
  unfold idxT at hx
  obtain ⟨j, hj, q⟩ := List.mem_flatMap.1 hx
  exact idxE_oct (chunk_chk h3 (many_le.1 j (List.mem_range.1 hj))) x q
theorem keysT_len' : ∀ (l : List En) (p : Option (List Int)), (keysT p l).length ≤ l.length
  | [], p => by simp [keysT]
  | x :: r, p => by
    have := keysT_len' r (some (nums x.key))
    simp only [keysT, List.length_append, List.length_cons]
    cases sameKT p (nums x.key) <;> simp <;> omega
theorem fil_may {l : List En} (h : chkT l = 0) : mayB (filT l).1 (filT l).2.length = true ∧ encL (filT l).1 (filT l).2 = (filT l).1 :: (filT l).2 ∧ OctL (filT l).2 ∧ 1 ≤ (filT l).1 ∧ (filT l).1 ≤ 8 ∧ (filT l).2.length ≤ 8192 := by
  obtain ⟨h1, h2, h3⟩ := chkT_ok h
  have hk := keysT_len' l none
  have he : errM 10 (keysT none l).length = 0 := by unfold errM; rw [if_neg (by decide), if_neg (by omega)]
  have hm := (make_may he).1
  have hle := may_le hm
  refine ⟨hm, ?_, makeR_oct _ _, hle.1, hle.2.1, hle.2.2.2⟩
  unfold encL
  rw [show mayB (filT l).1 (filT l).2.length = true from hm]
  rfl
theorem fr2_oct {l : List En} (h : chkT l = 0) : ∀ x ∈ fr2 l, 0 ≤ x ∧ x ≤ 255 := by
  have := (fr2_len h).2
  exact frame_oct 2 _ (by decide) (idxT_oct h) (by omega)
theorem fr3_oct {l : List En} (h : chkT l = 0) : (∀ x ∈ fr3 l, 0 ≤ x ∧ x ≤ 255) ∧ (encL (filT l).1 (filT l).2).length ≤ 8193 := by
  obtain ⟨_, he, ho, k1, k2, kl⟩ := fil_may h
  have hl : (encL (filT l).1 (filT l).2).length ≤ 8193 := by rw [he]; simp; omega
  refine ⟨frame_oct 3 _ (by decide) ?_ (by omega), hl⟩
  rw [he]
  intro x hx
  rcases List.mem_cons.1 hx with rfl | q
  · omega
  · exact ho x q
theorem foot_oct (a t n : Nat) : ∀ x ∈ footO a t n, 0 ≤ x ∧ x ≤ 255 := by
  refine guard_octet _ ?_
  intro x hx
  rcases List.mem_append.1 hx with q | q
  · simp at q; omega
  · rcases List.mem_append.1 q with q | q
    · exact four_oct a x q
    · rcases List.mem_append.1 q with q | q
      · exact four_oct t x q
      · exact four_oct n x q
theorem blkT_oct (l : List En) (m : Nat) : ∀ x ∈ blkT l m, 0 ≤ x ∧ x ≤ 255 := by
  intro x hx
  unfold blkT at hx
  obtain ⟨j, _, q⟩ := List.mem_flatMap.1 hx
  exact encB_oct _ x q
theorem tab_oct {l : List En} (h : chkT l = 0) : ∀ x ∈ tabO l, 0 ≤ x ∧ x ≤ 255 := by
  intro x hx
  unfold tabO at hx
  rcases List.mem_append.1 hx with q | q
  · exact blkT_oct l _ x q
  · rcases List.mem_append.1 q with q | q
    · exact fr2_oct h x q
    · rcases List.mem_append.1 q with q | q
      · exact (fr3_oct h).1 x q
      · exact foot_oct _ _ _ x q
end Go.Proofs.YthiegmhplnbdlaaGreat



namespace Go.Proofs.YthiegmhplnbdlaaGreat
open Go.RowKit SumPlain
set_option linter.unusedVariables false
set_option linter.unusedSimpArgs false
theorem wpList_append_new (w : World) {ops : Array Oper} {rest : List Oper} {o : Oper} {a : Act} {Q : Exit → Act → World → Prop} (hgd : o.guard = none) (s x : Operand)
    (ho : o.op = .call { callee := .builtin .append, args := #[s, x], argTypes := #[25, 25] }) (b off n cap : Nat) (lo : List Int) (hs : a.eval s = .slice (some ⟨b, off, none⟩) n cap) (hO : Octs w (.slice (some ⟨b, off, none⟩) n cap) lo) (hne : lo ≠ [])
    (vx : Value) (lx : List Int) (hx : a.eval x = vx) (hOx : Octs w vx lx) (hnx : lx ≠ []) (hg : cap < n + lx.length) (hsz : lo.length + lx.length ≤ 140737488351232)
    (h : ∀ v' w', OwnB w' w.heap.size v' (lo ++ lx) → Below w.heap.size w w' → wpList Tryz.prog ops Q rest (a.put o.dst v') w') : wpList Tryz.prog ops Q (o :: rest) a w := by
  refine wpList_plain hgd fun K hK => ?_
  obtain ⟨i0, hi, hz0, hz1, hz2⟩ := info_some Tryz.info5
  rcases hO.2 with ⟨q, _⟩ | ⟨_, b1, off1, cap1, e1, _, _, hc1⟩
  · exact absurd q hne
  rcases hOx.2 with ⟨q, _⟩ | ⟨_, b2, off2, cap2, e2, _, _, hc2⟩
  · exact absurd q hnx
  simp only [Value.slice.injEq, Option.some.injEq, Addr.mk.injEq] at e1
  obtain ⟨⟨rfl, rfl, _⟩, hn, rfl⟩ := e1
  have hcell : ∀ (bb oo : Nat) (l : List Int), (∀ j x, l[j]? = some x → w.cell? ⟨bb, oo + j, none⟩ = some (.int .u8 x)) → ∀ j u, (l.map (Value.int .u8))[j]? = some u → w.cell? ((⟨bb, oo, none⟩ : Addr).add j) = some u := by
    intro bb oo l hc j u hj
    rw [List.getElem?_map] at hj
    cases hx' : l[j]? with
    | none => rw [hx'] at hj; cases hj
    | some y =>
      rw [hx'] at hj
      simp at hj
      subst hj
      rw [Addr.add_lit]
      exact hc j y hx'
  obtain ⟨v', w', hr, h2, h3⟩ := run_append_arg_grows (P := Tryz.prog) w 25 o.type 5 i0 (.int .u8 0) 1 1 Tryz.underlying25 hi hz0 hz1 hz2 rfl (by decide) ⟨b, off, none⟩ n cap (lo.map (Value.int .u8)) (by simp [hn]) (hcell b off lo hc1) ⟨b2, off2, none⟩ lx.length cap2 (lx.map (Value.int .u8)) (by simp) (hcell b2 off2 lx hc2) hg (by unfold maxLen; omega) (by omega)
  have h2' : OwnB w' w.heap.size v' (lo ++ lx) := by
    unfold OwnB
    rw [List.length_append, List.map_append, ← hn]
    exact h2
  have h3' : Below w.heap.size w w' := (Below.refl _ _).grown h3 (Nat.le_refl _) (fun k hk => by cases hk)
  rw [e2] at hx
  unfold Oper.wp execOp
  simp only [ho, resolve, invoke, builtin, Sem.run_bind, Sem.run_pure, Result.andThen_ok, List.map_toArray, List.map_cons, List.map_nil, hs, hx, hr]
  exact hK _ _ (h v' w' h2' h3')
theorem octs_const (w : World) (l : List Int) (hl : l.length = 4) (ho : ∀ x ∈ l, 0 ≤ x ∧ x ≤ 255) (m : Nat × Nat) : Octs (w.alloc (.cells (l.map (Value.int .u8)).toArray 5 m)) (.slice (some ⟨w.heap.size, 0, none⟩) 4 4) l := by
  refine ⟨ho, .inr ⟨(by intro q; rw [q] at hl; cases hl), w.heap.size, 0, 4, (by rw [hl]), (by omega), (by unfold maxLen; omega), fun j x hj => ?_⟩⟩
  have e := World.cell?_alloc_mark w (l.map (Value.int .u8)).toArray 5 m j
  rw [Nat.zero_add]
  refine e.trans ?_
  simp [hj]
end Go.Proofs.YthiegmhplnbdlaaGreat

namespace Go.Proofs.YthiegmhplnbdlaaGreat
open Go.RowKit SumPlain
set_option linter.unusedVariables false
set_option linter.unusedSimpArgs false
theorem bits_or_i64_nat (a b : Nat) (ha : a < 9223372036854775808) (hb : b < 9223372036854775808) :
    bits .or .i64 (a : Int) (b : Int) = ((a ||| b : Nat) : Int) := by
  have hx : a ||| b < 2 ^ 63 := Nat.or_lt_two_pow (by omega) (by omega)
  have h1 : (BitVec.ofInt 64 (a : Int)).toNat = a := by
    rw [BitVec.ofInt_natCast, BitVec.toNat_ofNat]; exact Nat.mod_eq_of_lt (by omega)
  have h2 : (BitVec.ofInt 64 (b : Int)).toNat = b := by
    rw [BitVec.ofInt_natCast, BitVec.toNat_ofNat]; exact Nat.mod_eq_of_lt (by omega)
  show IntKind.i64.wrap ((BitVec.ofInt 64 (a : Int) ||| BitVec.ofInt 64 (b : Int)).toNat : Int) = _
  rw [BitVec.toNat_or, h1, h2, IntKind.wrap_i64]
  omega
theorem or_add (k : Nat) (A y : Int) (hA : 0 ≤ A) (hA2 : A ≤ 4294967295) (hk : k ≤ 24) (hy : 0 ≤ y) (hy2 : y < ((2 ^ k : Nat) : Int)) : bits .or .i64 (A * ((2 ^ k : Nat) : Int)) y = A * ((2 ^ k : Nat) : Int) + y := by
  obtain ⟨a, rfl⟩ := Int.eq_ofNat_of_zero_le hA
  obtain ⟨b, rfl⟩ := Int.eq_ofNat_of_zero_le hy
  have hp : 2 ^ k ≤ 2 ^ 24 := Nat.pow_le_pow_right (by omega) hk
  have hm : a * 2 ^ k ≤ 4294967295 * 2 ^ 24 := Nat.mul_le_mul (by omega) hp
  rw [← Int.natCast_mul, bits_or_i64_nat _ _ (by omega) (by omega)]
  have h := Nat.shiftLeft_add_eq_or_of_lt (b := b) (i := k) (by omega) a
  rw [Nat.shiftLeft_eq] at h
  rw [← h]
  simp
end Go.Proofs.YthiegmhplnbdlaaGreat


