/- Texts of layers 1 to 13, in this order. -/
import Derived.Test.YthiegmhplnbdlaaGreatG08
import Derived.Test.YthiegmhplnbdlaaGreatG12
import Derived.Test.YthiegmhplnbdlaaGreatG10
import Derived.Test.YthiegmhplnbdlaaGreatG15
import Derived.Test.YthiegmhplnbdlaaGreatG21
import Derived.Test.YthiegmhplnbdlaaGreatG07
import Derived.Test.YthiegmhplnbdlaaGreatG09
import Derived.Test.YthiegmhplnbdlaaGreatG06
import Derived.Deep.RegionHeld3
import Derived.RangeFuncNested
import Derived.RangeFuncBound
import Derived.RangeFuncCalls
import Derived.RangeFuncLeaves
import Derived.Shelf.Abstract
import Derived.Shelf.RegionOpen
import Derived.OwnWalkIn
import Derived.TacticsInMore
import Derived.LoopNIn
import Derived.LoopIn

namespace Go.Proofs.YthiegmhplnbdlaaGreat
open Go.RowKit
set_option linter.unusedVariables false
set_option linter.unusedSimpArgs false
def nextOf : Option Int → List (Int × List Chg) → Option Int
  | nx, [] => nx
  | _, g :: r => nextOf (some (g.1 + (g.2.length : Int))) r
theorem nextOf_snoc : ∀ (nx : Option Int) (gs : List (Int × List Chg)) (g : Int × List Chg), nextOf nx (gs ++ [g]) = some (g.1 + (g.2.length : Int))
  | nx, [], g => rfl
  | nx, a :: r, g => nextOf_snoc _ r g
theorem Row.snoc : ∀ {nx : Option Int} {gs : List (Int × List Chg)}, Row nx gs → ∀ {g : Int × List Chg}, (nextOf nx gs = none ∨ nextOf nx gs = some g.1) → checkOf g.1 g.2 = 0 → Row nx (gs ++ [g])
  | nx, [], _, g, h, hc => ⟨h, hc, trivial⟩
  | nx, a :: r, hr, g, h, hc => ⟨hr.1, hr.2.1, Row.snoc hr.2.2 h hc⟩
theorem catF_snoc (gs : List (Int × List Int)) (g : Int × List Int) : catF (gs ++ [g]) = catF gs ++ frameOf g.1 g.2 := by
  rw [catF_append]
  simp [catF]
def entE (s : Int) : List Chg → List En
  | [] => []
  | c :: r => ⟨c.key, s, kindN c, c.val⟩ :: entE (s + 1) r
theorem entE_rows : ∀ (s : Int) (cs : List Chg), entL s cs = (entE s cs).map enRow
  | _, [] => rfl
  | s, c :: r => by
    rw [entL, entE, List.map_cons, entE_rows (s + 1) r]
    rfl
theorem entE_len : ∀ (s : Int) (cs : List Chg), (entE s cs).length = cs.length
  | _, [] => rfl
  | s, c :: r => by rw [entE, List.length_cons, List.length_cons, entE_len (s + 1) r]
theorem entE_at : ∀ (s : Int) (cs : List Chg) (k : Nat) (x : En), (entE s cs)[k]? = some x → ∃ c ∈ cs, x = ⟨c.key, s + (k : Int), kindN c, c.val⟩
  | _, [], k, x, h => by simp [entE] at h
  | s, c :: r, 0, x, h => by
    simp [entE] at h
    exact ⟨c, List.mem_cons_self, by rw [← h]; simp⟩
  | s, c :: r, k + 1, x, h => by
    rw [entE, List.getElem?_cons_succ] at h
    obtain ⟨d, hd, e⟩ := entE_at (s + 1) r k x h
    refine ⟨d, List.mem_cons_of_mem _ hd, ?_⟩
    rw [e]
    congr 1
    omega
theorem entE_may {s : Int} {cs : List Chg} (h : checkOf s cs = 0) : ∀ x ∈ entE s cs, mayE x = true := by
  intro x hx
  obtain ⟨k, hk⟩ := List.getElem?_of_mem hx
  obtain ⟨c, hc, rfl⟩ := entE_at s cs k x hk
  have hkl := (List.getElem?_eq_some_iff.1 hk).1
  rw [entE_len] at hkl
  obtain ⟨⟨h1, h2⟩, ⟨h3, h4⟩, h5⟩ := checkOf_ok h
  obtain ⟨c1, c2, c3, c4⟩ := chgErr_ok (h5 c hc)
  have hkd := kindN_octet c
  unfold mayE
  simp only [decide_eq_true_eq]
  refine ⟨by omega, by omega, by omega, by omega, by omega, by omega, ?_⟩
  unfold kindN
  cases hd : c.del with
  | false => left; simp
  | true =>
    right
    have := c4 hd
    rw [ByteArray.toList_eq]
    have e : c.val.data.size = 0 := this
    simpa using Array.eq_empty_of_size_eq_zero e
def allE (gs : List (Int × List Chg)) : List En := (gs.map fun g => entE g.1 g.2).flatten
theorem allE_snoc (gs : List (Int × List Chg)) (g : Int × List Chg) : allE (gs ++ [g]) = allE gs ++ entE g.1 g.2 := by
  unfold allE
  simp
def NumE (V : List En) : Prop := ∀ (i : Nat) (x : En), V[i]? = some x → x.seq = (i : Int) + 1
theorem NumE.snoc {V : List En} (h : NumE V) {cs : List Chg} {s : Int} (hs : s = (V.length : Int) + 1) : NumE (V ++ entE s cs) := by
  intro i x hx
  by_cases hi : i < V.length
  · rw [List.getElem?_append_left hi] at hx
    exact h i x hx
  · rw [List.getElem?_append_right (by omega)] at hx
    obtain ⟨c, _, rfl⟩ := entE_at s cs _ x hx
    simp only
    omega
theorem NumE.take {V : List En} (h : NumE V) (n : Nat) : NumE (V.take n) := by
  intro i x hx
  rw [List.getElem?_take] at hx
  split at hx
  · exact h i x hx
  · cases hx
theorem NumE.notw {V : List En} (h : NumE V) : NoTw V := by
  unfold NoTw
  rw [List.pairwise_iff_getElem]
  intro i j hi hj hij t
  have h1 := h i _ (List.getElem?_eq_getElem hi)
  have h2 := h j _ (List.getElem?_eq_getElem hj)
  have := t.2
  omega
structure LogI (gs : List (Int × List Chg)) (next : Int) : Prop where
  row : Row none gs
  nx : nextOf none gs = none ∨ nextOf none gs = some next
  num : NumE (allE gs)
  len : ((allE gs).length : Int) + 1 = next
  may : ∀ x ∈ allE gs, mayE x = true
  few : (allE gs).length ≤ 64 * gs.length
theorem LogI.nil : LogI [] 1 := ⟨trivial, .inl rfl, fun i x h => by simp [allE] at h, by simp [allE], fun x h => by simp [allE] at h, by simp [allE]⟩
theorem LogI.snoc {gs : List (Int × List Chg)} {next : Int} (h : LogI gs next) {cs : List Chg} (hc : checkOf next cs = 0) : LogI (gs ++ [(next, cs)]) (next + (cs.length : Int)) := by
  refine ⟨h.row.snoc h.nx hc, .inr (nextOf_snoc _ _ _), ?_, ?_, ?_, ?_⟩
  · rw [allE_snoc]
    exact h.num.snoc (by have := h.len; omega)
  · rw [allE_snoc, List.length_append, entE_len]
    have := h.len
    simp only
    omega
  · intro x hx
    rw [allE_snoc, List.mem_append] at hx
    rcases hx with hx | hx
    · exact h.may x hx
    · exact entE_may hc x hx
  · rw [allE_snoc, List.length_append, entE_len, List.length_append, List.length_singleton]
    have h1 := h.few
    have h2 := (checkOf_ok hc).2.1.2
    simp only
    omega
def SrtOf (V out : List En) : Prop := Asc out ∧ out.Perm V
theorem SrtOf.one {V a b : List En} (h : SrtOf V a) (k : SrtOf V b) : a = b :=
  asc_unique a b h.1 k.1 (fun x => by rw [h.2.mem_iff, k.2.mem_iff])
theorem SrtOf.ord {V a : List En} (h : SrtOf V a) (hm : ∀ x ∈ V, mayE x = true) : ordL a = 0 := (ord_iff a).2 ⟨fun x hx => hm x (h.2.mem_iff.1 hx), h.1⟩
theorem all_srt {s : Sk} (g : Good s) (i : Nat) (a b : En) (ha : s.all[i]? = some a) (hb : s.all[i + 1]? = some b) : beforeE a b = true := by
  have h := g.srt
  unfold Srt at h
  rw [List.pairwise_iff_getElem] at h
  unfold Sk.all at ha hb
  rw [List.getElem?_map] at ha hb
  cases h1 : s.ord[i]? with
  | none => rw [h1] at ha; simp at ha
  | some k =>
    cases h2 : s.ord[i + 1]? with
    | none => rw [h2] at hb; simp at hb
    | some j =>
      rw [h1] at ha
      rw [h2] at hb
      simp at ha hb
      obtain ⟨l1, e1⟩ := List.getElem?_eq_some_iff.1 h1
      obtain ⟨l2, e2⟩ := List.getElem?_eq_some_iff.1 h2
      have := h i (i + 1) l1 l2 (by omega)
      rw [e1, e2, Sk.eAt, Sk.eAt, ha, hb] at this
      exact this
theorem all_sorted {s : Sk} (g : Good s) : SrtOf s.es s.all := by
  refine ⟨(ascB_iff _).1 (ascB_at _ fun i x y hx hy => all_srt g i x y hx hy), ?_⟩
  have hn : s.ord.Nodup := g.srt.nodup
  have hp : s.ord.Perm (List.range s.nodes.length) := by
    refine (List.perm_ext_iff_of_nodup hn List.nodup_range).2 (fun k => ?_)
    rw [g.mem k, List.mem_range]
  have h2 := hp.map (fun k => (s.at' k).1)
  unfold Sk.all
  refine h2.trans ?_
  have e : (List.range s.nodes.length).map (fun k => (s.at' k).1) = s.es := by
    refine List.ext_getElem? fun i => ?_
    rw [List.getElem?_map]
    unfold Sk.es Sk.at'
    rw [List.getElem?_map]
    by_cases hi : i < s.nodes.length
    · rw [List.getElem?_range hi]
      simp [List.getD, hi]
    · rw [List.getElem?_eq_none (by simp; omega), List.getElem?_eq_none (by omega)]
      rfl
  rw [e]
theorem put_ok {s : Sk} {V : List En} {x : En} {k : Nat} {h : Int} (g : Good s) (hn : NumE V) (he : s.es = V.take k) (hx : V[k]? = some x) (hm : mayE x = true) (hh : 1 ≤ h ∧ h ≤ 8) (hl : V.length ≤ 4096) : errP s x h = 0 := by
  have hk := (List.getElem?_eq_some_iff.1 hx).1
  unfold errP
  rw [(checkS_iff s).2 g]
  have e1 : reachP h = true := by unfold reachP; simp [hh]
  have e2 : s.es.any (fun e => twin e x) = false := by
    rw [List.any_eq_false]
    intro y hy ht
    rw [he] at hy
    obtain ⟨i, hi⟩ := List.getElem?_of_mem hy
    have hik : i < k := by
      have := (List.getElem?_eq_some_iff.1 hi).1
      rw [List.length_take] at this
      omega
    rw [List.getElem?_take, if_pos hik] at hi
    have h1 := hn i y hi
    have h2 := hn k x hx
    unfold twin at ht
    simp at ht
    omega
  have e3 : ¬ s.nodes.length = 4096 := by
    rw [← Sk.es_len, he, List.length_take]
    omega
  simp [hm, e1, e2, e3]
theorem merge_more {V out : List En} {i n : Nat} (hn : NumE V) (hm : ∀ x ∈ V, mayE x = true) (hV : V.length ≤ 4096) (hi : i + n ≤ V.length) (h40 : n ≤ 40) (ho : SrtOf (V.take i) out) :
    mergeE (out :: ((V.drop i).take n).map (fun x => [x])) = 0 ∧ SrtOf (V.take (i + n)) (mergeL (out :: ((V.drop i).take n).map (fun x => [x]))) := by
  have hfl : (out :: ((V.drop i).take n).map (fun x => [x])).flatten = out ++ (V.drop i).take n := by
    rw [List.flatten_cons]
    congr 1
    generalize (V.drop i).take n = l
    induction l with
    | nil => rfl
    | cons y l ih => simp [ih]
  have ht : V.take (i + n) = V.take i ++ (V.drop i).take n := by rw [List.take_add]
  have hp : (out :: ((V.drop i).take n).map (fun x => [x])).flatten.Perm (V.take (i + n)) := by
    rw [hfl, ht]
    exact ho.2.append_right _
  have hnt : NoTw (out :: ((V.drop i).take n).map (fun x => [x])).flatten := (notw_perm hp).2 (hn.take _).notw
  have hord : ∀ r ∈ (out :: ((V.drop i).take n).map (fun x => [x])), ordL r = 0 := by
    intro r hr
    rcases List.mem_cons.1 hr with rfl | hr
    · exact ho.ord (fun x hx => hm x (List.mem_of_mem_take hx))
    · obtain ⟨x, hx, rfl⟩ := List.mem_map.1 hr
      exact (ord_iff [x]).2 ⟨fun y hy => by simp at hy; rw [hy]; exact hm x (List.mem_of_mem_drop (List.mem_of_mem_take hx)), List.pairwise_singleton _ _⟩
  have hE : mergeE (out :: ((V.drop i).take n).map (fun x => [x])) = 0 := by
    refine (mergeE_iff _).2 ⟨?_, ?_, hord, hnt⟩
    · rw [List.length_cons, List.length_map, List.length_take]
      omega
    · rw [← List.length_flatten, hp.length_eq, List.length_take]
      omega
  refine ⟨hE, ?_, (merge_perm _).trans hp⟩
  exact ((ord_iff _).1 (merge_ord hE).1).2
theorem find_group {key : ByteArray} {s : Int} : ∀ (gs : List (List En)), Grps gs → ∀ g ∈ gs, ∀ y, seesM g s = some y → y.key = key → firstF gs.flatten key s = some y
  | [], _, g, hg, _, _, _ => by cases hg
  | h :: gs, hG, g, hg, y, hy, hk => by
    unfold firstF
    rw [List.flatten_cons, List.find?_append]
    have hyg : y ∈ g := List.mem_of_find?_eq_some hy
    rcases List.mem_cons.1 hg with rfl | hg
    · have hs := hG.1 g List.mem_cons_self
      have e : g.find? (fun e => (e.key.toList == key.toList) && decide (e.seq ≤ s)) = some y := by
        have e2 : g.find? (fun e => (e.key.toList == key.toList) && decide (e.seq ≤ s)) = seesM g s := by
          unfold seesM
          have : ∀ x ∈ g, ((x.key.toList == key.toList) && decide (x.seq ≤ s)) = decide (x.seq ≤ s) := by
            intro x hx
            have := hs.2 x hx y hyg
            unfold KL at this
            rw [this, hk]
            simp
          clear hy hyg hs hG hg
          induction g with
          | nil => rfl
          | cons z g ih =>
            rw [List.find?_cons, List.find?_cons, this z List.mem_cons_self, ih (fun x hx => this x (List.mem_cons_of_mem _ hx))]
        rw [e2, hy]
      rw [e]
      rfl
    · have e : h.find? (fun e => (e.key.toList == key.toList) && decide (e.seq ≤ s)) = none := by
        rw [List.find?_eq_none]
        intro x hx q
        have := (List.pairwise_cons.1 hG.2).1 g hg x hx y hyg
        simp only [Bool.and_eq_true, beq_iff_eq] at q
        unfold KL at this
        rw [hk] at this
        exact this q.1
      rw [e]
      have := find_group gs ⟨fun g hg => hG.1 g (List.mem_cons_of_mem _ hg), (List.pairwise_cons.1 hG.2).2⟩ g hg y hy hk
      unfold firstF at this
      rw [this]
      rfl
theorem seen_first {l : List En} (h : ordL l = 0) {s : Int} {p : Pa} (hp : p ∈ seenM l s) : ∃ y ∈ l, firstF l p.key s = some y ∧ y.key = p.key ∧ y.val = p.val := by
  unfold seenM at hp
  rw [if_pos h] at hp
  unfold seenL at hp
  obtain ⟨g, hg, hq⟩ := List.mem_filterMap.1 hp
  unfold seeP at hq
  cases hy : seesM g s with
  | none => rw [hy] at hq; cases hq
  | some y =>
    rw [hy] at hq
    simp only [Option.bind_some] at hq
    unfold paOf at hq
    split at hq
    · simp only [Option.some.injEq] at hq
      subst hq
      have hG := groups_grps l.length l (Nat.le_refl _) ((ord_iff l).1 h).2
      have hf := find_group (key := y.key) (groupsM l) hG g hg y hy rfl
      rw [groups_join] at hf
      refine ⟨y, ?_, hf, rfl, rfl⟩
      exact List.mem_of_find?_eq_some hf
    · cases hq
end Go.Proofs.YthiegmhplnbdlaaGreat

namespace Go.Proofs.YthiegmhplnbdlaaGreat
open Go.RowKit SumPlain
set_option linter.unusedVariables false
theorem set_at (G : List Int) (p : Nat) (hp : p < G.length) (v : Int) : G.set p v = G.take p ++ ([v] ++ G.drop (p + 1)) := by
  rw [List.set_eq_take_append_cons_drop, if_pos hp]
  rfl
end Go.Proofs.YthiegmhplnbdlaaGreat



namespace Go.Proofs.YthiegmhplnbdlaaGreat
open Go.RowKit
set_option linter.unusedVariables false
set_option maxRecDepth 20000
theorem set2_blkB {w : World} {N : Nat} {t : TypeId} {x0 x1 : Value} (h : w.heap[N]? = some (.cells #[x0, x1] t)) (a b : Value) : (set2 w N a b).heap[N]? = some (.cells #[a, b] t) :=
  blk_set (blk_set h 0 a) 1 b
theorem set2_grownB (w : World) (N : Nat) (a b : Value) : w.grownBy (set2 w N a b) (some N) :=
  grown_trans (grown_set w ⟨N, 0, none⟩ a) (grown_set _ ⟨N, 1, none⟩ b)
end Go.Proofs.YthiegmhplnbdlaaGreat

namespace Go.Proofs.YthiegmhplnbdlaaGreat
open Go.RowKit
set_option linter.unusedVariables false
set_option maxRecDepth 20000
def hashS (h x : Int) : Int := bits .xor .u64 h x * 1099511628211 % 18446744073709551616
def hashL (l : List Int) : Int := l.foldl hashS 14695981039346656037
theorem hash_nil : hashL [] = 14695981039346656037 := rfl
theorem hash_snoc (l : List Int) (x : Int) : hashL (l ++ [x]) = hashS (hashL l) x := by unfold hashL; rw [List.foldl_append]; rfl
theorem hash_u64 (l : List Int) : 0 ≤ hashL l ∧ hashL l ≤ 18446744073709551615 := by
  rcases List.eq_nil_or_concat l with rfl | ⟨r, x, rfl⟩
  · rw [hash_nil]; omega
  · rw [List.concat_eq_append, hash_snoc]; unfold hashS; omega
theorem wrap64 (n : Int) : IntKind.u64.wrap n = n % 18446744073709551616 := by simp [IntKind.wrap, IntKind.bits, IntKind.signed]
theorem val_u64 {a b : Int} (h : a = b) : Value.int .u64 a = .int .u64 b := by rw [h]
set_option maxHeartbeats 400000 in
theorem hash_any (l : List Int) (hx : OctL l) (hm : l.length ≤ 140737488355328) (w : World) :
    Calls Tryz.prog 78 #[.string (strOfNums l)] w fun e w' => e = .returned (.int .u64 (hashL l)) ∧ w' = w := by
  have hsz := str_size l
  go_enter Tryz.func78, Tryz.ntmps78
  go_wp2
  go_loopw [3, 7] (fun h i wr => ∃ k : Nat, k ≤ l.length ∧ i = .int .i64 k ∧ h = .int .u64 (hashL (l.take k)) ∧ wr = w) (fun _ i _ => l.length - (intOf i).toNat)
  case atStart => exact ⟨0, Nat.zero_le _, rfl, rfl, rfl⟩
  case round =>
    obtain ⟨k, hk, rfl, rfl, rfl⟩ := hrel
    by_cases hlt : k < l.length
    · have hlt' : (k : Int) < (l.length : Int) := by omega
      have hj : k < (strOfNums l).size := by omega
      have hy := str_at l hx k hj
      obtain ⟨y0, y1⟩ : 0 ≤ l.getD k 0 ∧ l.getD k 0 ≤ 255 := hx _ (by simp [List.getD, hlt])
      have HS : Hid (hashL (l.take (k + 1)) = hashS (hashL (l.take k)) (l.getD k 0)) := by unfold Hid; rw [take_snoc l k 0 hlt, hash_snoc]
      obtain ⟨z0, z1⟩ := hash_u64 (l.take k)
      generalize hashL (l.take k) = h at *
      generalize l.getD k 0 = x at *
      go_wp2
      exact ⟨⟨k + 1, by omega, by go_num, val_u64 (by rw [HS.out, hashS, wrap64]), trivial⟩, by simp [intOf]; omega⟩
    · have hlt' : ¬ (k : Int) < (l.length : Int) := by omega
      obtain rfl : k = l.length := by omega
      rw [List.take_length]
      go_wp2
      go_ret
      exact ⟨rfl, rfl⟩
end Go.Proofs.YthiegmhplnbdlaaGreat

namespace Go.Proofs.YthiegmhplnbdlaaGreat
open Go.RowKit
set_option linter.unusedVariables false
set_option maxRecDepth 20000
def mayB (k : Int) (n : Nat) : Bool := decide (1 ≤ k) && (decide (k ≤ 8) && (decide (1 ≤ n) && decide (n ≤ 8192)))
theorem mayBe_any (k : Int) (a : Option Addr) (n c : Nat) (w : World) :
    Calls Tryz.prog 48 #[.agg #[.int .i64 k, .slice a n c]] w fun e w' => e = .returned (.bool (mayB k n)) ∧ w' = w.alloc (.cells #[.int .i64 k, .slice a n c] 57) := by
  go_enter Tryz.func48, Tryz.ntmps48
  by_cases c1 : 1 ≤ k
  · by_cases c2 : k ≤ 8
    · by_cases c3 : 1 ≤ n
      · have c3' : (1 : Int) ≤ (n : Int) := by omega
        by_cases c4 : n ≤ 8192
        · have c4' : (n : Int) ≤ 8192 := by omega
          have HM : Hid (true = mayB k n) := by unfold Hid mayB; simp [c1, c2, c3, c4]
          go_wp2
          go_ret
          exact ⟨ret_bool HM.out, rfl⟩
        · have c4' : ¬ (n : Int) ≤ 8192 := by omega
          have HM : Hid (false = mayB k n) := by unfold Hid mayB; simp [c4]
          go_wp2
          go_ret
          exact ⟨ret_bool HM.out, rfl⟩
      · have c3' : ¬ (1 : Int) ≤ (n : Int) := by omega
        have HM : Hid (false = mayB k n) := by unfold Hid mayB; simp [c3]
        go_wp2
        go_ret
        exact ⟨ret_bool HM.out, rfl⟩
    · have HM : Hid (false = mayB k n) := by unfold Hid mayB; simp [c2]
      go_wp2
      go_ret
      exact ⟨ret_bool HM.out, rfl⟩
  · have HM : Hid (false = mayB k n) := by unfold Hid mayB; simp [c1]
    go_wp2
    go_ret
    exact ⟨ret_bool HM.out, rfl⟩
def chkE (k : Int) (n : Nat) : Int := if mayB k n then 0 else 9
def lowN (h : Int) : Nat := h.toNat % 4294967296
def highN (h : Int) : Nat := h.toNat / 4294967296 ||| 1
def plc (h : Int) (i n : Nat) : Nat := (lowN h + i * highN h) % (8 * n)
theorem lowN_lt (h : Int) : lowN h ≤ 4294967295 := by unfold lowN; omega
theorem highN_lt {h : Int} (h1 : h ≤ 18446744073709551615) : highN h ≤ 4294967295 := by
  have h2 : h.toNat / 4294967296 < 2 ^ 32 := by omega
  have := Nat.or_lt_two_pow h2 (show 1 < 2 ^ 32 by decide)
  unfold highN
  omega
theorem low_eq {h : Int} (h0 : 0 ≤ h) (h1 : h ≤ 18446744073709551615) : bits .and .u64 h 4294967295 = (lowN h : Int) := by
  rw [u64_and h 4294967295 h0 (by omega) (by omega) (by omega)]
  unfold lowN
  rw [show ((4294967295 : Int).toNat) = 2 ^ 32 - 1 from rfl, Nat.and_two_pow_sub_one_eq_mod]
theorem high_eq {h : Int} (h0 : 0 ≤ h) (h1 : h ≤ 18446744073709551615) : bits .or .u64 (h / 4294967296) 1 = (highN h : Int) := by
  rw [u64_or (h / 4294967296) 1 (by omega) (by omega) (by omega) (by omega)]
  unfold highN
  have e : (h / 4294967296).toNat = h.toNat / 4294967296 := by omega
  rw [e]
  rfl
theorem mul_le {i hi : Nat} (h1 : i ≤ 7) (h2 : hi ≤ 4294967295) : i * hi ≤ 30064771065 := by
  have := Nat.mul_le_mul h1 h2
  omega
theorem wrap_mul {i hi : Nat} (h1 : i ≤ 7) (h2 : hi ≤ 4294967295) : IntKind.u64.wrap ((i : Int) * (hi : Int)) = ((i * hi : Nat) : Int) := by
  have := mul_le h1 h2
  rw [wrap64, ← Int.natCast_mul]
  omega
theorem wrap_add {a b : Nat} (h1 : a ≤ 4294967295) (h2 : b ≤ 30064771065) : IntKind.u64.wrap ((a : Int) + (b : Int)) = ((a + b : Nat) : Int) := by
  rw [wrap64]
  omega
theorem places_any (l : List Int) (hx : OctL l) (hm : l.length ≤ 140737488355328) (k : Int) (a : Option Addr) (n c : Nat) (w : World) :
    Calls Tryz.prog 49 #[.agg #[.int .i64 k, .slice a n c], .string (strOfNums l)] w fun e w' => e = .returned (.func (.func 79) #[] #[.pointer (some ⟨w.heap.size, 0, none⟩), .pointer (some ⟨w.heap.size + 1, 0, none⟩), .pointer (some ⟨w.heap.size + 2, 0, none⟩)]) ∧
      w' = ((w.alloc (.cells #[.int .i64 k, .slice a n c] 57)).alloc (.cells #[.int .u64 (lowN (hashL l))] 46)).alloc (.cells #[.int .u64 (highN (hashL l))] 46) := by
  obtain ⟨z0, z1⟩ := hash_u64 l
  have HC : Hid (∀ w : World, Calls Tryz.prog 78 #[.string (strOfNums l)] w fun e w' => e = .returned (.int .u64 (hashL l)) ∧ w' = w) := fun w => hash_any l hx hm w
  generalize hashL l = h at *
  have e1 := low_eq z0 z1
  have e2 := high_eq z0 z1
  generalize lowN h = lo at *
  generalize highN h = hi at *
  go_enter Tryz.func49, Tryz.ntmps49
  go_wp2_with fail
  refine (HC.out _).mono ?_
  rintro e w1 ⟨rfl, rfl⟩
  go_wp2
  go_ret
  exact ⟨rfl, rfl⟩
end Go.Proofs.YthiegmhplnbdlaaGreat

namespace Go.Proofs.YthiegmhplnbdlaaGreat
open Go.RowKit Go.Shelf
set_option linter.unusedVariables false
set_option maxRecDepth 20000
attribute [local go_sem] Oper.semAt_some
def bitN (p : Nat) : Nat := 2 ^ (p % 8)
theorem bit_le (p : Nat) : bitN p ≤ 128 := by
  unfold bitN
  have h : p % 8 < 8 := Nat.mod_lt _ (by decide)
  generalize p % 8 = j at *
  have : ∀ j, j < 8 → 2 ^ j ≤ 128 := by decide
  exact this j h
theorem bit_eq (p : Nat) : ((bitN p : Nat) : Int) = 2 ^ (p % 8) % 256 := by
  have h := bit_le p
  have e : ((bitN p : Nat) : Int) = (2 : Int) ^ (p % 8) := by unfold bitN; rw [Int.natCast_pow]; rfl
  rw [← e]
  generalize bitN p = x at *
  omega
set_option maxHeartbeats 2000000 in
theorem iter_in (m l Bf : Nat) (K : Nat) (hK8 : K ≤ 8) (h : Int) (h0 : 0 ≤ h) (h1 : h ≤ 18446744073709551615) (a : Option Addr) (n c : Nat) (hn : 1 ≤ n) (hn2 : n ≤ 8192) (J : Nat → World → Prop) (D : World → Prop) (W : World)
    (hY : ∀ (i : Nat) (W0 : World), i < K → J i W0 → YieldAt Fence.wide (m - 1) Tryz.prog l #[.int .i64 ((plc h i n / 8 : Nat) : Int), .int .u8 ((bitN (plc h i n) : Nat) : Int)] W0 fun e W' => (e = .returned (.bool true) ∧ J (i + 1) W') ∨ (e = .returned (.bool false) ∧ D W'))
    (hK : ∀ i W', J i W' → W'.cell? ⟨Bf, 0, none⟩ = some (.int .i64 K) ∧ W'.cell? ⟨Bf, 1, none⟩ = some (.slice a n c) ∧ W'.cell? ⟨Bf + 1, 0, none⟩ = some (.int .u64 (lowN h)) ∧ W'.cell? ⟨Bf + 2, 0, none⟩ = some (.int .u64 (highN h)))
    (hJ : J 0 W) :
    CallsIn Fence.wide m Tryz.prog 79 #[.func (.yield l) #[] #[], .pointer (some ⟨Bf, 0, none⟩), .pointer (some ⟨Bf + 1, 0, none⟩), .pointer (some ⟨Bf + 2, 0, none⟩)] W fun e W' => (∃ v, e = .returned v) ∧ (J K W' ∨ D W') := by
  refine callsIn_of_wp Tryz.func79 rfl trivial ?_ rfl
  simp only [Tryz.ntmps79, List.size_toArray, List.length_cons, List.length_nil, Nat.reduceAdd, Nat.reduceSub, Array.replicate_succ, Array.replicate_zero, List.push_toArray, List.append_toArray, List.nil_append, List.cons_append]
  obtain ⟨k0, k1, k2, k3⟩ := hK 0 W hJ
  gi_wp2
  gi_loopw [9] (fun p wr => ∃ (i : Nat), p = .int .i64 (i : Int) ∧ i ≤ K ∧ Hid (J i wr)) (fun p wr => K - (intOf p).toNat)
  case atStart => exact ⟨0, rfl, Nat.zero_le _, hJ⟩
  case round =>
    obtain ⟨i, rfl, hi, hj⟩ := hrel
    clear k0 k1 k2 k3
    obtain ⟨k0, k1, k2, k3⟩ := hK i wr hj.out
    by_cases hlt : i < K
    · have hlt' : (i : Int) < (K : Int) := by omega
      have hi7 : i ≤ 7 := by omega
      have Y : Hid (YieldAt Fence.wide (m - 1) Tryz.prog l #[.int .i64 ((plc h i n / 8 : Nat) : Int), .int .u8 ((bitN (plc h i n) : Nat) : Int)] wr fun e W' => (e = .returned (.bool true) ∧ J (i + 1) W') ∨ (e = .returned (.bool false) ∧ D W')) := hY i wr hlt hj.out
      clear hY hK
      have b1 := lowN_lt h
      have b2 := highN_lt h1
      have HP : Hid (plc h i n = (lowN h + i * highN h) % (8 * n)) := rfl
      generalize plc h i n = p at *
      generalize lowN h = lo at *
      generalize highN h = hg at *
      have e3 := wrap_mul hi7 b2
      have b3 := mul_le hi7 b2
      generalize i * hg = q at *
      have e4 := wrap_add b1 b3
      have b4 : lo + q ≤ 34359738360 := by omega
      generalize lo + q = s at *
      have b5 : p < 8 * n := by rw [HP.out]; exact Nat.mod_lt _ (by omega)
      have e5 : Int.tmod (s : Int) ((n : Int) * 8) = (p : Int) := by
        rw [HP.out]
        rw [Int.tmod_eq_emod_of_nonneg (by omega), Int.natCast_emod, Int.natCast_mul, Int.mul_comm]
        rfl
      have hb : ((bitN p : Nat) : Int) = 2 ^ (p % 8) % 256 := bit_eq p
      have hd : ((p / 8 : Nat) : Int) = (p : Int) / 8 := by omega
      rw [hb, hd] at Y
      clear hb hd
      obtain ⟨fn, tmps, asg, bod, hy, hR⟩ := Y.out
      clear Y
      gi_wp2
      refine ⟨fun h => (by cases h), hR.mono ?_⟩
      rintro e W3 (⟨rfl, hJ3⟩ | ⟨rfl, hD3⟩)
      · have HJ3 : Hid (J (i + 1) W3) := hJ3
        clear hJ3
        gi_wp2
        exact ⟨⟨i + 1, by simp, by omega, HJ3⟩, by simp [intOf]; omega⟩
      · have HD3 : Hid (D W3) := hD3
        clear hD3
        gi_wp2
        refine bodyPost_ret (results_none rfl _ _ _) rfl ?_
        exact ⟨⟨_, rfl⟩, .inr HD3.out⟩
    · have hlt' : ¬ (i : Int) < (K : Int) := by omega
      obtain rfl : i = K := by omega
      clear hY hK
      gi_wp2
      go_end0
      exact ⟨⟨_, rfl⟩, .inl hj.out⟩
end Go.Proofs.YthiegmhplnbdlaaGreat

namespace Go.Proofs.YthiegmhplnbdlaaGreat
open Go.RowKit Go.Shelf
set_option linter.unusedVariables false
set_option maxRecDepth 20000
attribute [local go_sem] Oper.semAt_some
theorem range_law {g : Operand} {ps : Array Tmp} {assign body : Code} {Q : Exit → Act → World → Prop} {a : Act} {w : World} {n gf : Nat} {lb : Array Value} (hg : a.eval g = .func (.func gf) #[] lb)
    (eg : ∀ args w, (callFunc gf args).run Tryz.prog w = .ok (.enter gf args) w)
    (h : ∀ r : Loop, r.state = .ready → r.pending = none → r.tmps = a.tmps → r.params = ps → r.assign = assign → r.body = body →
      CallsIn Fence.wide (n - 1) Tryz.prog gf (#[.func (.yield (w.heap.size + 1)) #[] #[]] ++ lb) ((w.alloc (.deferred (some []))).alloc (.loop r))
      fun e W' => (∃ v, e = .returned v) ∧ ∃ r' : Loop, W'.heap[w.heap.size + 1]? = some (.loop r') ∧ r'.state ≠ .busy ∧
        ((r'.pending = none ∧ Q .normal { a with defers := { target := .collected w.heap.size, args := #[] } :: a.defers } (W'.putObj (w.heap.size + 1) (.loop { r' with state := .exhausted }))) ∨
         (r'.pending = some .ret ∧ Q .ret { a with defers := { target := .collected w.heap.size, args := #[] } :: a.defers } (W'.putObj (w.heap.size + 1) (.loop { r' with state := .exhausted }))))) :
    (Code.rangeFunc g ps assign body).wpIn Fence.wide n Tryz.prog Q a w := by
  refine wpIn_rangeFunc ?_
  intro fn hfn
  have hent := run_enterLoop_outer (P := Tryz.prog) (w := w) fn a.tmps ps assign body
  obtain ⟨r, hr⟩ : ∃ r : Loop, r = { state := .ready, pending := none, fn, tmps := a.tmps, params := ps, assign, body, defers := w.heap.size } := ⟨_, rfl⟩
  have hh := h r (by rw [hr]) (by rw [hr]) (by rw [hr]) (by rw [hr]) (by rw [hr]) (by rw [hr])
  rw [← hr] at hent
  clear h hr
  generalize (w.alloc (.deferred (some []))).alloc (.loop r) = W1 at *
  refine ⟨w.heap.size + 1, [{ target := .collected w.heap.size, args := #[] }], W1, { target := .fn (.func gf) lb, args := #[.func (.yield (w.heap.size + 1)) #[] #[]] }, W1, gf, #[.func (.yield (w.heap.size + 1)) #[] #[]] ++ lb, W1, hent, ?_, fun _ _ => trivial, ?_, fun h => (by cases h), ?_⟩
  · simp only [resolve, hg]
    simp [go_sem]
  · simp [invoke, go_sem, eg]
  · refine hh.mono ?_
    rintro e W' ⟨⟨v, rfl⟩, r', h1, h2, h4⟩
    refine ⟨r'.pending, _, run_endLoop (P := Tryz.prog) h1 h2, ?_⟩
    rcases h4 with ⟨h3, h4⟩ | ⟨h3, h4⟩
    · rw [h3] at h4 ⊢
      exact h4
    · rw [h3] at h4 ⊢
      exact wpIn_ret h4
def marks (ds : List Nat) : List Deferred := ds.map fun b => { target := .collected b, args := #[] }
structure But (ds : List Nat) (W W' : World) : Prop where
  os : W'.os = W.os
  tape : W'.tape = W.tape
  output : W'.output = W.output
  size : W'.heap.size = W.heap.size
  block : ∀ k, k ∉ ds → W'.heap[k]? = W.heap[k]?
theorem leaves_marks {n : Nat} {fn : Func} {tmps : Array Value} {R : Ending → World → Prop} : ∀ (ds : List Nat) (W : World), ds.Nodup → (∀ b ∈ ds, W.heap[b]? = some (.deferred (some []))) →
    (∀ W', But ds W W' → LeavesInM Fence.wide n Tryz.prog fn tmps R [] .returning W') → LeavesInM Fence.wide n Tryz.prog fn tmps R (marks ds) .returning W
  | [], W, _, _, h => h W ⟨rfl, rfl, rfl, rfl, fun _ _ => rfl⟩
  | b :: ds, W, hn, hb, h => by
    refine ⟨by simp, .inl ⟨b, W.putObj b (.deferred none), rfl, run_takeDeferred (hb b (List.mem_cons_self ..)), ?_⟩⟩
    obtain ⟨hbn, hn'⟩ := List.nodup_cons.1 hn
    refine leaves_marks ds _ hn' (fun c hc => ?_) (fun W' hW' => h W' ?_)
    · have hne : c ≠ b := fun e => hbn (by rw [← e]; exact hc)
      rw [World.putObj_heap_other hne]
      exact hb c (List.mem_cons_of_mem _ hc)
    · refine ⟨hW'.os, hW'.tape, hW'.output, by rw [hW'.size]; simp [World.putObj], fun k hk => ?_⟩
      have hne : k ≠ b := fun e => hk (by rw [e]; exact List.mem_cons_self ..)
      rw [hW'.block k (fun e => hk (List.mem_cons_of_mem _ e)), World.putObj_heap_other hne]
theorem But.grown {ds : List Nat} {W W' : World} (h : But ds W W') {B : Nat} (hB : ∀ b ∈ ds, B ≤ b) : Below B W W' :=
  ⟨h.os, h.tape, h.output, Nat.le_of_eq h.size.symm, fun k hk => h.block k (fun e => by have := hB k e; omega)⟩
theorem But.cell {ds : List Nat} {W W' : World} (h : But ds W W') {B i : Nat} (hB : B ∉ ds) : W'.cell? ⟨B, i, none⟩ = W.cell? ⟨B, i, none⟩ := by
  unfold World.cell?
  simp only [h.block B hB]
end Go.Proofs.YthiegmhplnbdlaaGreat
