/- Texts of layers 1 to 13, in this order. -/
import Derived.Test.YthiegmhplnbdlaaGreatYVer
import Derived.Test.YthiegmhplnbdlaaGreatG09
import Derived.Test.YthiegmhplnbdlaaGreatG29
import Derived.Test.YthiegmhplnbdlaaGreatG12

namespace Go.Proofs.YthiegmhplnbdlaaGreat
open Go.RowKit SumPlain
set_option linter.unusedVariables false
set_option linter.unusedSimpArgs false
def readP : Nat → List Int → List En → List Int → Option (List En)
  | 0, _, _, _ => none
  | f + 1, prev, out, l => if l = [] then some out else if out.length = 64 then none else
    match entQ prev l with
    | none => none
    | some (x, m) => readP f (nums x.key) (out ++ [x]) (l.drop m)
def readB (l : List Int) : Option (List En) :=
  if l.length < 1 then none else
    if (l.length : Int) - 1 - 2 * l.getD (l.length - 1) 0 < 0 then none else
      readP (l.length + 1) [] [] (l.take ((l.length : Int) - 1 - 2 * l.getD (l.length - 1) 0).toNat)
theorem readP_end {f : Nat} {prev : List Int} {out : List En} {l : List Int} (hf : l.length < f) (h : l = []) : readP f prev out l = some out := by
  obtain ⟨g, rfl⟩ : ∃ g, f = g + 1 := ⟨f - 1, by omega⟩
  rw [readP, if_pos h]
theorem readP_full {f : Nat} {prev : List Int} {out : List En} {l : List Int} (hf : l.length < f) (h : l ≠ []) (ho : out.length = 64) : readP f prev out l = none := by
  obtain ⟨g, rfl⟩ : ∃ g, f = g + 1 := ⟨f - 1, by omega⟩
  rw [readP, if_neg h, if_pos ho]
theorem readP_bad {f : Nat} {prev : List Int} {out : List En} {l : List Int} (hf : l.length < f) (h : l ≠ []) (ho : out.length ≠ 64) (he : entQ prev l = none) : readP f prev out l = none := by
  obtain ⟨g, rfl⟩ : ∃ g, f = g + 1 := ⟨f - 1, by omega⟩
  rw [readP, if_neg h, if_neg ho, he]
theorem readP_step {g : Nat} {prev : List Int} {out : List En} {l : List Int} {x : En} {m : Nat} (h : l ≠ []) (ho : out.length ≠ 64) (he : entQ prev l = some (x, m)) : readP (g + 1) prev out l = readP g (nums x.key) (out ++ [x]) (l.drop m) := by
  rw [readP, if_neg h, if_neg ho, he]
theorem entQ_le {prev l : List Int} {x : En} {m : Nat} (hx : ∀ x ∈ l, 0 ≤ x ∧ x ≤ 255) (h : entQ prev l = some (x, m)) : 1 ≤ m ∧ m ≤ l.length ∧ x.key.size ≤ prev.length + 96 := by
  unfold entQ at h
  cases hn : numsP prev.length l with
  | none => rw [hn] at h; cases h
  | some r =>
    obtain ⟨n, k, s, v, p⟩ := r
    rw [hn] at h
    obtain ⟨h1, h2, h3, h4, h5⟩ := numsP_le hx hn
    simp only at h
    split at h
    · cases h
    · simp only [Option.some.injEq, Prod.mk.injEq] at h
      obtain ⟨rfl, rfl⟩ := h
      refine ⟨by omega, by omega, ?_⟩
      show (strOfNums _).size ≤ _
      rw [str_size]
      simp
      omega
structure RdI (w wr : World) (Y : Option (List En)) (f k : Nat) (out : List En) (vl : Value) (pk : ByteArray) (vb : Value) (nb : Nat) (rest : List Int) : Prop where
  len : out.length = k
  hnb : nb = rest.length
  eq : Y = readP f (nums pk) out rest
  fu : rest.length < f
  own : OwnR wr w.heap.size 50 4 vl (out.map enRow)
  oc : Octs w vb rest
  up : Below w.heap.size w wr
  kl : pk.size ≤ 96 * k
  bd : rest.length ≤ 140737488355328
set_option maxHeartbeats 4000000 in
set_option maxRecDepth 100000 in
theorem read_any (l : List Int) (a : Option Addr) (c : Nat) (w : World) (ho : Octs w (.slice a l.length c) l) (hl : l.length ≤ 140737488355328) :
    Calls Tryz.prog 94 #[.slice a l.length c] w fun e w' => ∃ a' n' c', e = .returned (.tuple #[.slice a' n' c', .bool (readB l).isSome]) ∧ Hid (n' = ((readB l).getD []).length ∧ OwnR w' w.heap.size 50 4 (.slice a' n' c') (((readB l).getD []).map enRow)) ∧ Hid (Below w.heap.size w w') := by
  by_cases h0 : l = []
  · subst h0
    have HR : Hid (readB [] = none) := rfl
    rw [HR.out]
    go_enter Tryz.func94, Tryz.ntmps94
    go_wp2
    go_ret2
    exact ⟨none, 0, 0, rfl, ⟨rfl, OwnR.nil _ _ _ _⟩, Below.refl _ _⟩
  have hoct := ho.1
  have HO : Hid (Octs w (.slice a l.length c) l) := ho
  obtain ⟨b, off, rfl, hcl⟩ : ∃ b off, a = some ⟨b, off, none⟩ ∧ l.length ≤ c := by
    rcases ho.form with ⟨_, q, _⟩ | ⟨_, _, q⟩ | ⟨b, off, q, _, q2, _⟩
    · exact absurd q h0
    · exact absurd q h0
    · exact ⟨b, off, q, q2⟩
  obtain ⟨j, hj⟩ : ∃ j, l.length = j + 1 := ⟨l.length - 1, by have := List.length_pos_iff.2 h0; omega⟩
  obtain ⟨x, hx⟩ : ∃ x, x = l.getD j 0 := ⟨_, rfl⟩
  have hxx : 0 ≤ x ∧ x ≤ 255 := by
    rw [hx]
    exact hoct _ (by simp [List.getD]; rw [List.getElem?_eq_getElem (show j < l.length by omega)]; simp)
  have hcx : w.cell? ⟨b, off + j, none⟩ = some (.int .u8 x) := by
    rcases ho.2 with ⟨q, _⟩ | ⟨_, b', off', cap', hv', _, _, hcell⟩
    · exact absurd q h0
    · simp only [Value.slice.injEq, Option.some.injEq, Addr.mk.injEq] at hv'
      obtain ⟨⟨rfl, rfl, _⟩, _, _⟩ := hv'
      exact hcell j x (by rw [hx]; simp [List.getD]; rw [List.getElem?_eq_getElem (show j < l.length by omega)]; simp)
  have HB : Hid (readB l = if (j : Int) - 2 * x < 0 then none else readP (l.length + 1) [] [] (l.take ((j : Int) - 2 * x).toNat)) := by
    unfold Hid readB
    rw [if_neg (by omega), show l.length - 1 = j by omega, ← hx, show ((l.length : Int) - 1 - 2 * x) = (j : Int) - 2 * x by omega]
  obtain ⟨n, hn⟩ : ∃ n, n = l.length := ⟨_, rfl⟩
  have HN : Hid (n = l.length) := hn
  rw [← hn] at HO hl hj hcl ⊢
  have e1 : (n : Int) - 1 = (j : Int) := by omega
  have e2 : IntKind.i64.wrap (j : Int) = (j : Int) := wrap64_id _ (by omega) (by omega)
  have e3 : ¬ (j : Int) < 0 := by omega
  have e4 : (0 : Int) ≤ (j : Int) := by omega
  have e5 : (j : Int) < (n : Int) := by omega
  have e6 : IntKind.i64.wrap x = x := wrap64_id _ (by omega) (by omega)
  obtain ⟨y, hy⟩ : ∃ y : Int, y = 2 * x := ⟨_, rfl⟩
  have e7 : 2 * x = y := hy.symm
  have e8 : IntKind.i64.wrap y = y := wrap64_id _ (by omega) (by omega)
  rw [e7] at HB
  clear hx hn ho
  by_cases hneg : (j : Int) - y < 0
  · rw [if_pos hneg] at HB
    have e9 : IntKind.i64.wrap ((j : Int) - y) = (j : Int) - y := by rw [IntKind.wrap_i64]; omega
    rw [HB.out]
    clear hy hj
    go_enter Tryz.func94, Tryz.ntmps94
    go_wp2
    go_ret2
    exact ⟨none, 0, 0, rfl, ⟨rfl, OwnR.nil _ _ _ _⟩, Below.refl _ _⟩
  rw [if_neg hneg] at HB
  obtain ⟨en, hen⟩ : ∃ en : Nat, (j : Int) - y = (en : Int) := ⟨((j : Int) - y).toNat, by omega⟩
  have e9 : IntKind.i64.wrap (en : Int) = (en : Int) := wrap64_id _ (by omega) (by omega)
  have e10 : ¬ (en : Int) < 0 := by omega
  have e11 : (0 : Int) ≤ (en : Int) := by omega
  have e12 : (en : Int) ≤ (c : Int) := by omega
  have HEN : Hid (en ≤ n) := by unfold Hid; omega
  rw [hen, Int.toNat_natCast] at HB
  have I0 : Hid (RdI w w (readB l) (n + 1) 0 [] (.slice none 0 0) ⟨#[]⟩ (.slice (some ⟨b, off, none⟩) en c) en (l.take en)) := by
    have hnn := HN.out
    have hle := HEN.out
    refine ⟨rfl, by simp; omega, by rw [HB.out, hnn]; rfl, by simp; omega, OwnR.nil _ _ _ _, ?_, Below.refl _ _, by simp [ByteArray.size], by simp; omega⟩
    exact HO.out.cut hnn en (by omega)
  clear hy hj hneg HB HEN HO
  generalize readB l = Y at *
  go_enter Tryz.func94, Tryz.ntmps94
  go_wp2_with fail
  go_loopw [6, 7, 8] (fun vl vp vb wr => ∃ (f k : Nat) (out : List En) (a' : Option Addr) (c' : Nat) (pk : ByteArray) (ab : Option Addr) (nb cb : Nat) (rest : List Int), vl = .slice a' k c' ∧ vp = .string pk ∧ vb = .slice ab nb cb ∧ k ≤ 64 ∧ Hid (RdI w wr Y f k out (.slice a' k c') pk (.slice ab nb cb) nb rest)) (fun _ _ vb _ => sliceLen vb)
  case atStart => exact ⟨n + 1, 0, [], none, 0, ⟨#[]⟩, _, en, c, l.take en, rfl, rfl, rfl, by omega, I0⟩
  case round =>
    clear I0
    obtain ⟨f, k, out, a', c', pk, ab, nb, cb, rest, rfl, rfl, rfl, hk, RI⟩ := hrel
    by_cases hnb : nb = 0
    · subst hnb
      have HE : Hid (Y = some out) := by
        unfold Hid
        rw [RI.out.eq, readP_end RI.out.fu (List.length_eq_zero_iff.1 RI.out.hnb.symm)]
      have HF : Hid (k = out.length ∧ OwnR wr w.heap.size 50 4 (.slice a' k c') (out.map enRow)) := ⟨RI.out.len.symm, RI.out.own⟩
      have HU : Hid (Below w.heap.size w wr) := RI.out.up
      go_wp2
      go_ret2
      rw [HE.out]
      exact ⟨a', k, c', rfl, HF, HU⟩
    · have hnb' : 0 < nb := by omega
      have HNE : Hid (rest ≠ []) := fun q => hnb (by rw [RI.out.hnb, q]; rfl)
      by_cases hk64 : k = 64
      · subst hk64
        have HE : Hid (Y = none) := by
          unfold Hid
          rw [RI.out.eq, readP_full RI.out.fu HNE.out RI.out.len]
        have HU : Hid (Below w.heap.size w wr) := RI.out.up
        go_wp2
        go_ret2
        rw [HE.out]
        exact ⟨none, 0, 0, rfl, ⟨rfl, OwnR.nil _ _ _ _⟩, HU⟩
      · have hk1 : ((k : Int) == 64) = false := by simp; omega
        have hk2 : ¬ (k : Int) = 64 := by omega
        have HO64 : Hid (out.length ≠ 64) := by unfold Hid; rw [RI.out.len]; exact hk64
        have HRV : Hid (Calls Tryz.prog 111 #[.slice ab nb cb, .string pk] wr fun e w' => e = .returned (retV (entQ (nums pk) rest)) ∧ Hid (Below wr.heap.size wr w')) := by
          have h := readVer_any rest (nums pk) ab cb wr (by have := RI.out.oc; rw [RI.out.hnb] at this; exact this.up RI.out.up) (nums_octet pk) (by rw [nums_length]; have := RI.out.kl; omega) RI.out.bd
          rw [str_nums, ← RI.out.hnb] at h
          exact h
        cases he : entQ (nums pk) rest with
        | none =>
          have HE : Hid (Y = none) := by
            unfold Hid
            rw [RI.out.eq, readP_bad RI.out.fu HNE.out HO64.out he]
          rw [he] at HRV
          unfold retV at HRV
          have HU : Hid (Below w.heap.size w wr) := RI.out.up
          clear RI he
          go_wp2_with fail
          refine HRV.out.mono ?_
          rintro e w1 ⟨rfl, u1⟩
          go_wp2
          go_ret2
          rw [HE.out]
          exact ⟨none, 0, 0, rfl, ⟨rfl, OwnR.nil _ _ _ _⟩, up_al (up_trans HU.out u1.out) _⟩
        | some r =>
          obtain ⟨xe, m⟩ := r
          obtain ⟨m1, m2, m3⟩ := entQ_le RI.out.oc.1 he
          rw [he] at HRV
          unfold retV enV at HRV
          obtain ⟨f', hf'⟩ : ∃ f', f = f' + 1 := ⟨f - 1, by have := RI.out.fu; omega⟩
          have HEQ : Hid (Y = readP f' (nums xe.key) (out ++ [xe]) (rest.drop m)) := by
            unfold Hid
            rw [RI.out.eq, hf', readP_step HNE.out HO64.out he]
          rw [← RI.out.hnb] at m2
          have m2' : (m : Int) ≤ (nb : Int) := by omega
          have m0' : (0 : Int) ≤ (m : Int) := by omega
          rw [nums_length] at m3
          obtain ⟨A, hA⟩ : ∃ A, (if cb = m then ab else ab.map (fun x => x.add m)) = A := ⟨_, rfl⟩
          have HOC : Hid (Octs w (.slice A (nb - m) (cb - m)) (rest.drop m)) := by
            have h := RI.out.oc
            have hh := RI.out.hnb
            rw [hh] at h ⊢
            rw [← hA]
            exact octs_from h m (by omega)
          have HFU : Hid (f = f' + 1) := hf'
          clear he hf'
          go_wp2_with fail
          refine HRV.out.mono ?_
          rintro e w1 ⟨rfl, u1⟩
          have U1 : Hid (Below w.heap.size w w1) := up_trans RI.out.up u1.out
          obtain ⟨WB, hWB⟩ : ∃ WB, WB = w1.alloc (.cells #[.string xe.key, .int .i64 xe.seq, .int .i64 xe.kind, .string xe.val] 50) := ⟨_, rfl⟩
          have BX : Hid (BoxN WB w1.heap.size xe) := by rw [hWB]; exact blk_new _ _
          have HWB : Hid (w1.alloc (.cells #[.string xe.key, .int .i64 xe.seq, .int .i64 xe.kind, .string xe.val] 50) = WB) := hWB.symm
          have UB : Hid (Below w.heap.size w WB) := by rw [hWB]; exact up_al U1.out _
          have OB : Hid (OwnR WB w.heap.size 50 4 (.slice a' k c') (out.map enRow)) := by rw [hWB]; exact (RI.out.own.up u1.out).up (up_alloc _ _)
          have HGN : Hid (∀ g, (Value.slice a' k c').ownBlock = some g → g < w1.heap.size) := fun g hg => ((RI.out.own.up u1.out).2.lt g hg).2
          have HSB : Hid (WB.heap.size = w1.heap.size + 1) := by rw [hWB]; unfold Hid; simp
          obtain ⟨WC, hWC⟩ : ∃ WC, WC = WB.alloc (.cells #[.string xe.key, .int .i64 xe.seq, .int .i64 xe.kind, .string xe.val] 50) := ⟨_, rfl⟩
          have HWC : Hid (WB.alloc (.cells #[.string xe.key, .int .i64 xe.seq, .int .i64 xe.kind, .string xe.val] 50) = WC) := hWC.symm
          have UC : Hid (Below WB.heap.size WB WC) := by rw [hWC]; exact up_alloc _ _
          have HR2 : Hid (Rws 4 WC (.slice (some ⟨w1.heap.size + 1, 0, none⟩) 1 1) [enRow xe]) := by
            have := Rws.made (sz := 4) WB 50 [enRow xe] (by simp [enRow]) (by simp [maxLen])
            rw [HSB.out] at this
            rw [hWC]
            exact this
          have OC : Hid (OwnR WC w.heap.size 50 4 (.slice a' k c') (out.map enRow)) := OB.out.up UC.out
          have BC : Hid (BoxN WC w1.heap.size xe) := BX.out.up UC.out
          have HA4 : Hid (((out.map enRow).length + [enRow xe].length + ((out.map enRow).length + [enRow xe].length) / 4 + 192) * 48 ≤ 281474976710656 ∧ (out.map enRow).length + [enRow xe].length ≤ maxLen) := by
            have := RI.out.len
            unfold Hid maxLen; simp only [List.length_map, List.length_cons, List.length_nil]; omega
          have HS5 : Hid (w.heap.size ≤ WC.heap.size) := (up_trans UB.out UC.out).size
          have UWC : Hid (Below w.heap.size w WC) := up_trans UB.out UC.out
          obtain ⟨z0, z1, z2, z3⟩ := BX.out.cells
          clear hWB hWC
          go_wp2_with (rw [HWB.out, HWC.out]; at_builtin; refine wpList_append_rows WC rfl _ _ 42 50 _ 4 48 rfl Tryz.underlying42 Tryz.info50 rfl (by decide) w.heap.size (.slice a' k c') (out.map enRow) rfl OC.out (.slice (some ⟨w1.heap.size + 1, 0, none⟩) 1 1) [enRow xe] rfl HR2.out (enRow_one xe) HA4.out.1 HA4.out.2 HS5.out ?_)
          intro v6 w6 ho hg
          have BX6 : Hid (BoxN w6 w1.heap.size xe) := blk_grown BC.out hg (fun e => by have := HGN.out _ e.symm; omega)
          have U6 : Hid (Below w.heap.size w w6) := UWC.out.grown hg UWC.out.size (fun q hq => (OC.out.2.lt q hq).1)
          obtain ⟨a6, c6, e6, _, _⟩ := (Rws.own ho).len
          simp only [List.length_append, List.length_map, List.length_cons, List.length_nil] at e6
          rw [RI.out.len] at e6
          subst e6
          have O6 : Hid (OwnR w6 w.heap.size 50 4 (.slice a6 (k + 1) c6) ((out ++ [xe]).map enRow)) := by unfold Hid; rw [List.map_append]; exact ho
          clear ho hg z0 z1 z2 z3
          obtain ⟨z0, z1, z2, z3⟩ := BX6.out.cells
          go_wp2_with fail
          refine ⟨⟨f', k + 1, out ++ [xe], a6, c6, xe.key, A, nb - m, cb - m, rest.drop m, rfl, rfl, rfl, by omega, ?_⟩, by simp [sliceLen]; omega⟩
          have hh := RI.out.hnb
          have hfu := RI.out.fu
          have hff := HFU.out
          refine ⟨by rw [List.length_append, RI.out.len]; rfl, by rw [List.length_drop, hh], HEQ.out, by rw [List.length_drop]; omega, O6.out, HOC.out, U6.out, by have := RI.out.kl; omega, by rw [List.length_drop]; have := RI.out.bd; omega⟩
end Go.Proofs.YthiegmhplnbdlaaGreat

namespace Go.Proofs.YthiegmhplnbdlaaGreat
open Go.RowKit SumPlain
set_option linter.unusedVariables false
theorem stepN_back (top : Int) (n : Nat) (pre r : List Int) (h : (n : Int) ≤ top) (h1 : (n : Int) ≤ 18446744073709551615) : stepN top (pre ++ (octets n ++ r)) pre.length = some (n, pre.length + (octets n).length) := by
  unfold stepN
  rw [List.drop_left, getOf_octets n (by omega) h1]
  simp only
  rw [if_pos ⟨trivial, by omega⟩]
  simp
theorem numsP_back (h n k s v : Nat) (r : List Int) (h1 : n ≤ h) (hh : h ≤ 1099511627776) (h2 : k ≤ 96) (h3 : s ≤ 1099511627776) (h4 : v ≤ 512) :
    numsP h (octets n ++ (octets k ++ (octets s ++ (octets v ++ r)))) = some (n, k, s, v, (octets n).length + (octets k).length + (octets s).length + (octets v).length) := by
  have a1 := stepN_back h n [] (octets k ++ (octets s ++ (octets v ++ r))) (by omega) (by omega)
  have a2 := stepN_back 96 k (octets n) (octets s ++ (octets v ++ r)) (by omega) (by omega)
  have a3 := stepN_back 1099511627776 s (octets n ++ octets k) (octets v ++ r) (by omega) (by omega)
  have a4 := stepN_back 512 v (octets n ++ octets k ++ octets s) r (by omega) (by omega)
  simp only [List.append_assoc, List.length_append, List.nil_append, List.length_nil, Nat.zero_add] at a1 a2 a3 a4
  unfold numsP
  rw [a1]
  simp only
  rw [a2]
  simp only
  rw [a3]
  simp only
  rw [← Nat.add_assoc] at a4
  rw [a4]
theorem entQ_back (i : Nat) (prev : List Int) (x : En) (h : mayE x = true) (hp : prev.length ≤ 1099511627776) (r : List Int) : entQ prev (entO (shareN i prev x) x ++ r) = some (x, (entO (shareN i prev x) x).length) := by
  obtain ⟨k1, k2, s1, s2, d1, d2, v1⟩ := mayE_le h
  obtain ⟨n1, n2, n3⟩ := share_le i prev x
  generalize shareN i prev x = n at *
  obtain ⟨s, hs⟩ := Int.eq_ofNat_of_zero_le (show 0 ≤ x.seq by omega)
  have hs' : x.seq = (s : Int) := hs
  have e : entO n x ++ r = octets (n : Nat) ++ (octets (((nums x.key).length - n : Nat) : Nat) ++ (octets (s : Nat) ++ (octets ((nums x.val).length : Nat) ++ (x.kind :: ((nums x.key).drop n ++ (nums x.val ++ r)))))) := by
    unfold entO
    rw [hs']
    simp
  have hl : (entO n x).length = (octets (n : Nat)).length + (octets (((nums x.key).length - n : Nat) : Nat)).length + (octets (s : Nat)).length + (octets ((nums x.val).length : Nat)).length + 1 + ((nums x.key).length - n) + (nums x.val).length := by
    unfold entO
    rw [hs']
    simp
    omega
  unfold entQ
  rw [hl, e, numsP_back prev.length n _ s _ _ n1 hp (by omega) (by omega) v1]
  simp only
  generalize octets (n : Nat) = O0
  generalize octets (((nums x.key).length - n : Nat) : Nat) = O1
  generalize octets (s : Nat) = O2
  generalize octets ((nums x.val).length : Nat) = O3
  have e2 : O0 ++ (O1 ++ (O2 ++ (O3 ++ (x.kind :: ((nums x.key).drop n ++ (nums x.val ++ r)))))) = (O0 ++ (O1 ++ (O2 ++ O3))) ++ (x.kind :: ((nums x.key).drop n ++ (nums x.val ++ r))) := by simp
  rw [e2]
  generalize hP : O0 ++ (O1 ++ (O2 ++ O3)) = P
  have hpl : O0.length + O1.length + O2.length + O3.length = P.length := by rw [← hP]; simp; omega
  rw [hpl, if_neg (by simp; omega)]
  have g1 : (P ++ (x.kind :: ((nums x.key).drop n ++ (nums x.val ++ r)))).drop (P.length + 1) = (nums x.key).drop n ++ (nums x.val ++ r) := by
    rw [List.drop_append, List.drop_eq_nil_of_le (by omega), List.nil_append, show P.length + 1 - P.length = 1 by omega]
    rfl
  have g2 : (P ++ (x.kind :: ((nums x.key).drop n ++ (nums x.val ++ r)))).drop (P.length + 1 + ((nums x.key).length - n)) = nums x.val ++ r := by
    rw [← List.drop_drop, g1, List.drop_left' (by simp)]
  have g3 : (P ++ (x.kind :: ((nums x.key).drop n ++ (nums x.val ++ r)))).getD P.length 0 = x.kind := by
    rw [List.getD_eq_getElem?_getD, List.getElem?_append_right (Nat.le_refl _)]
    simp
  rw [g1, g2, g3, List.take_left' (by simp), List.take_left, n3, List.take_append_drop, str_nums, str_nums, ← hs']
theorem readP_back : ∀ (l : List En) (i : Nat) (prev : List Int) (out : List En) (f : Nat), (∀ x ∈ l, mayE x = true) → prev.length ≤ 96 → out.length + l.length ≤ 64 → l.length < f → readP f prev out (bodyO i prev l) = some (out ++ l)
  | [], i, prev, out, f, _, _, _, hf => by
    cases f with
    | zero => omega
    | succ f => unfold readP bodyO; simp
  | x :: r, i, prev, out, f, hm, hp, hl, hf => by
    cases f with
    | zero => omega
    | succ f =>
      have hpos := entO_pos (shareN i prev x) x
      have hk := (mayE_le (hm x (by simp))).2.1
      simp only [List.length_cons] at hl hf
      have hne : bodyO i prev (x :: r) ≠ [] := by
        intro q
        have := congrArg List.length q
        unfold bodyO at this
        simp at this
        have := this.1
        rw [this] at hpos
        simp at hpos
      have he : entQ prev (bodyO i prev (x :: r)) = some (x, (entO (shareN i prev x) x).length) := by
        unfold bodyO
        exact entQ_back i prev x (hm x (by simp)) (by omega) _
      rw [readP_step hne (by omega) he]
      have hd : (bodyO i prev (x :: r)).drop (entO (shareN i prev x) x).length = bodyO (i + 1) (nums x.key) r := by
        unfold bodyO
        rw [List.drop_left]
        cases r <;> rfl
      rw [hd, readP_back r (i + 1) (nums x.key) (out ++ [x]) f (fun y hy => hm y (by simp [hy])) hk (by simp; omega) (by omega)]
      simp
theorem read_block {l : List En} (h : chkB l = 0) : readB (blockO l) = some l := by
  obtain ⟨l1, l2, hm⟩ := chkB_may h
  obtain ⟨t1, t2⟩ := tailO_len l 0 [] 0
  have hb := bodyO_len l 0 []
  unfold readB blockO
  generalize hB : bodyO 0 [] l = B at *
  generalize tailO 0 [] 0 l = T at *
  have hlen : (B ++ (T ++ [((T.length / 2 % 256 : Nat) : Int)])).length = B.length + T.length + 1 := by simp; omega
  have hlast : (B ++ (T ++ [((T.length / 2 % 256 : Nat) : Int)])).getD ((B ++ (T ++ [((T.length / 2 % 256 : Nat) : Int)])).length - 1) 0 = ((T.length / 2 % 256 : Nat) : Int) := by
    rw [hlen, ← List.append_assoc, List.getD_eq_getElem?_getD, List.getElem?_append_right (by simp)]
    simp
  rw [hlast, hlen, if_neg (by omega)]
  have hend : ((B.length + T.length + 1 : Nat) : Int) - 1 - 2 * ((T.length / 2 % 256 : Nat) : Int) = (B.length : Int) := by omega
  rw [hend, if_neg (by omega), Int.toNat_natCast, List.take_left, ← hB]
  rw [readP_back l 0 [] [] _ hm (by simp) (by simpa using l2) (by rw [hB]; omega)]
  rfl
def decM (b : List Int) : Option (List En) → List En × Int
  | none => ([], 21)
  | some l => if encB l = (b, 0) then (l, 0) else ([], 21)
def decP (b : List Int) : List En × Int :=
  if (bareOf b).2 = 0 then decM b (readB (bareOf b).1) else ([], (bareOf b).2)
theorem encB_bare {l : List En} {b : List Int} (h : encB l = (b, 0)) : chkB l = 0 ∧ bareOf b = (blockO l, 0) := by
  unfold encB at h
  by_cases hc : chkB l = 0
  · rw [if_pos hc] at h
    simp only [Prod.mk.injEq, and_true] at h
    exact ⟨hc, by rw [← h]; exact bare_guard _⟩
  · rw [if_neg hc] at h
    simp only [Prod.mk.injEq] at h
    exact absurd h.2 hc
theorem decP_eq (b : List Int) : decP b = decB b := by
  unfold decP decB
  by_cases h1 : (bareOf b).2 = 0
  · rw [if_pos h1, if_pos h1]
    by_cases h2 : encB (toldB (bareOf b).1) = (b, 0)
    · obtain ⟨hc, hb⟩ := encB_bare h2
      have hr := read_block hc
      rw [show blockO (toldB (bareOf b).1) = (bareOf b).1 from (congrArg Prod.fst hb).symm] at hr
      rw [hr, if_pos h2]
      unfold decM
      simp only
      rw [if_pos h2]
    · rw [if_neg h2]
      cases hr : readB (bareOf b).1 with
      | none => rfl
      | some l =>
        unfold decM
        simp only
        by_cases h3 : encB l = (b, 0)
        · exfalso
          obtain ⟨hc, hb⟩ := encB_bare h3
          apply h2
          rw [hb]
          simp only
          rw [told_block hc]
          exact h3
        · rw [if_neg h3]
  · rw [if_neg h1, if_neg h1]
end Go.Proofs.YthiegmhplnbdlaaGreat

namespace Go.Proofs.YthiegmhplnbdlaaGreat
open Go.RowKit SumPlain
set_option linter.unusedVariables false
set_option linter.unusedSimpArgs false
theorem equal_any (l1 l2 : List Int) (v1 v2 : Value) (w : World) (h1 : Octs w v1 l1) (h2 : Octs w v2 l2) : Calls Tryz.prog 42 #[v1, v2] w fun e w' => e = .returned (.bool (decide (l1 = l2))) ∧ w' = w := by
  have k1 := run_convert_octs l1 v1 w h1
  have k2 := run_convert_octs l2 v2 w h2
  have hs := str_eq l1 l2 h1.1 h2.1
  clear h1 h2
  go_enter Tryz.func42, Tryz.ntmps42
  go_wp2
  go_ret
  exact ⟨rfl, rfl⟩
set_option maxHeartbeats 4000000 in
theorem decode_any (B : List Int) (v : Value) (w : World) (hv : Octs w v B) (hl : B.length ≤ 140737488351232) :
    Calls Tryz.prog 74 #[v] w fun e w' => ∃ a n c, e = .returned (.tuple #[.slice a n c, .int .i64 (decB B).2]) ∧ Hid (n = (decB B).1.length) ∧ Hid (OwnR w' w.heap.size 50 4 (.slice a n c) ((decB B).1.map enRow)) ∧ Hid (Below w.heap.size w w') := by
  rw [← decP_eq]
  have HV : Hid (Octs w v B) := hv
  have HC := bare_any B v w hv (by omega)
  clear hv
  by_cases h0 : (bareOf B).2 = 0
  · rw [h0] at HC
    have HL : Hid ((bareOf B).1.length ≤ 140737488355328) := by have := bare_le B; unfold Hid; omega
    go_enter Tryz.func74, Tryz.ntmps74
    go_wp2_with fail
    refine HC.mono ?_
    rintro e w1 ⟨v1, rfl, O1, b1⟩
    have U1 : Hid (Below w.heap.size w w1) := b1
    obtain ⟨a1, c1, hv1, _⟩ := own_len O1
    subst hv1
    have HT := read_any (bareOf B).1 a1 c1 w1 (Octs.own O1 (bare_oct HV.out.1)) HL.out
    generalize hnn : (bareOf B).1.length = n1 at *
    clear HC O1 b1
    have HD : Hid (decP B = decM B (readB (bareOf B).1)) := by unfold Hid decP; rw [if_pos h0]
    cases hr : readB (bareOf B).1 with
    | none =>
      rw [hr] at HT HD
      have HF : Hid (decP B = ([], 21)) := HD
      clear HD
      simp only [Option.isSome_none] at HT
      go_wp2_with fail
      refine HT.mono ?_
      rintro e w2 ⟨a2, n2, c2, rfl, P2, U2⟩
      have U2' : Hid (Below w.heap.size w w2) := up_trans U1.out U2.out
      go_wp2
      go_ret2
      rw [HF.out]
      exact ⟨none, 0, 0, rfl, rfl, OwnR.nil _ _ _ _, U2'⟩
    | some L =>
      rw [hr] at HT HD
      replace HD : Hid (decP B = if encB L = (B, 0) then (L, 0) else ([], 21)) := HD
      simp only [Option.isSome_some, Option.getD_some] at HT
      go_wp2_with fail
      refine HT.mono ?_
      rintro e w2 ⟨a2, n2, c2, rfl, P2, U2⟩
      have HE : Hid (EntsR w2 (.slice a2 n2 c2) L) := Rws.own P2.out.2
      have U2' : Hid (Below w.heap.size w w2) := up_trans U1.out U2.out
      have S1 : Hid (w.heap.size ≤ w1.heap.size) := U1.out.size
      clear HT U2 U1 HL hr
      have HN := encP_any L _ w2 HE.out
      by_cases h2 : (encB L).2 = 0
      · rw [h2] at HN
        go_wp2_with fail
        refine HN.mono ?_
        rintro e w3 ⟨v3, rfl, O3, b3⟩
        have U3 : Hid (Below w2.heap.size w2 w3) := b3
        have HQ := equal_any (encB L).1 B v3 v w3 (Octs.own O3 (encB_oct L)) (HV.out.up (up_trans U2'.out b3))
        clear HN O3 b3
        by_cases h3 : (encB L).1 = B
        · rw [decide_eq_true h3] at HQ
          have HF : Hid (decP B = (L, 0)) := by
            unfold Hid
            rw [HD.out, if_pos (Prod.ext h3 h2)]
          go_wp2_with fail
          refine HQ.mono ?_
          rintro e w4 ⟨rfl, rfl⟩
          go_wp2
          go_ret2
          rw [HF.out]
          exact ⟨a2, n2, c2, rfl, P2.out.1, (P2.out.2.up U3.out).mono S1.out, up_trans U2'.out U3.out⟩
        · rw [decide_eq_false h3] at HQ
          have HF : Hid (decP B = ([], 21)) := by
            unfold Hid
            rw [HD.out, if_neg (fun e => h3 (by rw [e]))]
          go_wp2_with fail
          refine HQ.mono ?_
          rintro e w4 ⟨rfl, rfl⟩
          go_wp2
          go_ret2
          rw [HF.out]
          exact ⟨none, 0, 0, rfl, rfl, OwnR.nil _ _ _ _, up_trans U2'.out U3.out⟩
      · have HF : Hid (decP B = ([], 21)) := by
          unfold Hid
          rw [HD.out, if_neg (fun e => h2 (by rw [e]))]
        generalize (encB L).2 = q at *
        have hq1 : (q == 0) = false := by simp [h2]
        have hq2 : (q != 0) = true := by simp [h2]
        go_wp2_with fail
        refine HN.mono ?_
        rintro e w3 ⟨v3, rfl, O3, b3⟩
        have U3 : Hid (Below w2.heap.size w2 w3) := b3
        clear HN O3 b3
        go_wp2
        go_ret2
        rw [HF.out]
        exact ⟨none, 0, 0, rfl, rfl, OwnR.nil _ _ _ _, up_trans U2'.out U3.out⟩
  · have HF : Hid (decP B = ([], (bareOf B).2)) := by unfold Hid decP; rw [if_neg h0]
    generalize (bareOf B).2 = q at *
    have hq1 : (q == 0) = false := by simp [h0]
    have hq2 : (q != 0) = true := by simp [h0]
    go_enter Tryz.func74, Tryz.ntmps74
    go_wp2_with fail
    refine HC.mono ?_
    rintro e w1 ⟨v1, rfl, O1, b1⟩
    have U1 : Hid (Below w.heap.size w w1) := b1
    clear HC O1 b1
    go_wp2
    go_ret2
    rw [HF.out]
    exact ⟨none, 0, 0, rfl, rfl, OwnR.nil _ _ _ _, U1⟩
end Go.Proofs.YthiegmhplnbdlaaGreat
