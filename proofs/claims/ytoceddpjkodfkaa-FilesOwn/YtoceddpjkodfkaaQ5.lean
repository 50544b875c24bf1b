/- slices.Delete of one name. -/
import Derived.Test.YtoceddpjkodfkaaQ4
namespace Go.Proofs.Ytoceddpjkodfkaa
open Go.RowKit
set_option linter.unusedVariables false

theorem flat_erase {sz : Nat} (css : List (List Value)) (i : Nat) (hi : i < css.length) : (css.eraseIdx i).flatten = (css.take i).flatten ++ (css.drop (i + 1)).flatten := by
  rw [List.eraseIdx_eq_take_drop_succ, List.flatten_append]

set_option maxHeartbeats 2000000 in
theorem deleteN_any (l : List (List Int × Int)) (v : Value) (i base : Nat) (w : World) (hv : OwnN w base 73 v l) (hi : i < l.length) (hl : l.length ≤ 256) (hbase : base ≤ w.heap.size) :
    Calls Try.prog 72 #[v, .int .i64 i, .int .i64 ((i : Int) + 1)] w fun e w' => ∃ v', e = .returned v' ∧ OwnN w' base 73 v' (l.eraseIdx i) ∧ w.grownBy w' v.ownBlock ∧ v'.ownBlock = v.ownBlock := by
  have HV : Hid (OwnN w base 73 v l) := hv
  obtain ⟨a, cap, ev, hcap, hmax⟩ := (NamesW.own hv).len
  have hshape : ∃ g, a = some ⟨g, 0, none⟩ := by
    rcases hv.2.2.2 with ⟨e2, e3⟩ | ⟨g, cap', cur, e2, _⟩
    · rw [List.length_map] at e3; omega
    · rw [e2] at ev
      simp at ev
      exact ⟨g, ev.1.symm⟩
  obtain ⟨g, rfl⟩ := hshape
  subst ev
  obtain ⟨cur, hh, hbg, hnc, hmx, hsz, htk, hll⟩ := hv.2.blk
  clear hv
  unfold maxLen at hmax
  have hz : ∀ w, (zeroValue 73).run Try.prog w = .ok (.agg #[.string ⟨#[]⟩, .int .i64 0]) w := Try.zeroValue73
  obtain ⟨i0, hi0, hz0, hz1, hz2⟩ := info_some Try.info73
  -- the cells that are moved
  obtain ⟨news, hnews⟩ : ∃ news, news = ((l.map nrow).drop (i + 1)).flatten := ⟨_, rfl⟩
  have hnl : news.length = (l.length - (i + 1)) * 2 := by
    rw [hnews, flat_rows (sz := 2) _ (fun cs hcs => HV.out.2.1 cs (List.mem_of_mem_drop hcs)), List.length_drop, List.length_map]
  have hn1 : ∀ u ∈ news, u.oneCell' = true := by
    intro u hu
    rw [hnews] at hu
    obtain ⟨cs, q1, q2⟩ := List.mem_flatten.1 hu
    exact nrow_one l cs (List.mem_of_mem_drop q1) u q2
  have hcells : ∀ j u, news[j]? = some u → w.cell? ⟨g, (i + 1) * 2 + j, none⟩ = some u := by
    intro j u hj
    refine blk_cell hh _ u ?_
    have hjl : j < news.length := (List.getElem?_eq_some_iff.1 hj).1
    have e1 : news = ((l.map nrow).flatten).drop ((i + 1) * 2) := by rw [hnews, flat_drop _ HV.out.2.1]
    rw [e1, ← htk, List.getElem?_drop, List.getElem?_take] at hj
    split at hj
    · simpa using hj
    · cases hj
  -- where s[i+1:] begins
  obtain ⟨A, hA⟩ : ∃ A : Addr, (if cap = i + 1 then some (⟨g, 0, none⟩ : Addr) else some ⟨g, (i + 1) * 2, none⟩) = some A := by
    by_cases h : cap = i + 1
    · exact ⟨_, if_pos h⟩
    · exact ⟨_, if_neg h⟩
  have hsrc : ∀ j u, news[j]? = some u → w.drew.cell? (A.add j) = some u := by
    intro j u hj
    have hjl : j < news.length := (List.getElem?_eq_some_iff.1 hj).1
    have hne : ¬ cap = i + 1 := by omega
    have hA2 : A = ⟨g, (i + 1) * 2, none⟩ := by
      rw [if_neg hne] at hA
      exact (Option.some.inj hA).symm
    rw [hA2, Addr.add_lit]
    exact hcells j u hj
  have hspare : ∀ j, j < news.length → (w.drew.cell? ⟨g, 0 + i * 2 + j, none⟩).isSome = true ∧ w.drew.frozen? ⟨g, 0 + i * 2 + j, none⟩ = false := by
    intro j hj
    refine ⟨?_, blk_frozen (w := w) hh _⟩
    have : 0 + i * 2 + j < cur.size := by rw [hsz]; omega
    have e : w.cell? ⟨g, 0 + i * 2 + j, none⟩ = some cur[0 + i * 2 + j] := blk_cell hh _ _ (by simp)
    show (w.cell? _).isSome = true
    rw [e]
    rfl
  have HS : Hid ((∀ j u, news[j]? = some u → w.drew.cell? (A.add j) = some u) ∧ (∀ j, j < news.length → (w.drew.cell? ⟨g, 0 + i * 2 + j, none⟩).isSome = true ∧ w.drew.frozen? ⟨g, 0 + i * 2 + j, none⟩ = false) ∧ news.length = (l.length - (i + 1)) * 2 ∧ ∀ u ∈ news, u.oneCell' = true) := ⟨hsrc, hspare, hnl, hn1⟩
  clear hsrc hspare hnl hn1 hcells
  have hwr : IntKind.i64.wrap ((i : Int) + 1) = (i : Int) + 1 := by rw [IntKind.wrap_i64]; omega
  have hp0 : (0 : Int) ≤ (i : Int) + 1 := by omega
  have hp1 : (i : Int) + 1 ≤ (l.length : Int) := by omega
  have hp2 : ((i : Int) + 1).toNat = i + 1 := by omega
  have hp3 : ((i : Int) == (i : Int) + 1) = false := by rw [beq_eq_false_iff_ne]; omega
  have hp4 : (i : Int) ≤ (i : Int) + 1 := by omega
  have hic : i ≤ cap := by omega
  go_enter Try.func72, Try.ntmps72
  have HB : Hid (w.heap[g]? = some (.cells cur 73) ∧ base ≤ g ∧ cap ≤ maxLen ∧ cur.size = cap * 2 ∧ cur.toList.take (l.length * 2) = (l.map nrow).flatten ∧ news = ((l.map nrow).drop (i + 1)).flatten) := ⟨hh, hbg, hmx, hsz, htk, hnews⟩
  clear hh hbg hmx hsz htk hnews hll hz0
  go_wp2_with fail
  go_region_law (refine step_append_room rfl (.tmp 22) (.tmp 25) 31 rfl 73 i0 2 Try.underlying31 hi0 hz1 g 0 i cap (by simp [Act.eval, Act.put]) A (l.length - (i + 1)) (cap - (i + 1)) news (by simp [Act.eval, Act.put]) HS.out.2.2.1 HS.out.1 HS.out.2.2.2 (by omega) HS.out.2.1 ?_)
  clear hA
  obtain ⟨W, hW⟩ : ∃ W, W = w.drew.setCells g (i * 2) news := ⟨_, rfl⟩
  obtain ⟨n', hn'⟩ : ∃ n', n' = i + (l.length - (i + 1)) := ⟨_, rfl⟩
  have hn2 : n' + 1 = l.length := by omega
  have hfit1 : i * 2 + news.length ≤ cur.size := by rw [HB.out.2.2.2.1, HS.out.2.2.1]; omega
  have bw := blk_setCells news (i * 2) cur w.drew HB.out.1 hfit1
  rw [← hW] at bw
  rw [← hW, ← hn']
  have hsz2 : (over cur.toList (i * 2) news).toArray.size = cap * 2 := by
    have := over_len cur.toList (i * 2) news (by simpa using hfit1)
    simpa [HB.out.2.2.2.1] using this
  have hcl := fun ty c => run_clear_rows W 31 73 ty (.agg #[.string ⟨#[]⟩, .int .i64 0]) Try.underlying31 hz (by decide) g (n' * 2) 1 c (by omega) _ bw.1 (by simp [Value.cells]; have := hsz2; simp at this; omega)
  generalize hzs : (Builtin.zeroCells (Value.agg #[.string ⟨#[]⟩, .int .i64 0]).cells 1).toList = zs at hcl
  have hzl : zs.length = 2 := by rw [← hzs]; simp [Builtin.zeroCells, Value.cells]
  obtain ⟨V, hV⟩ : ∃ V, V = W.setRow g (over (over cur.toList (i * 2) news).toArray.toList (n' * 2) zs).toArray := ⟨_, rfl⟩
  have bv := blk_setRow bw.1 (over (over cur.toList (i * 2) news).toArray.toList (n' * 2) zs).toArray
  rw [← hV] at bv hcl
  have HOw : Hid (OwnN V base 73 (.slice (some ⟨g, 0, none⟩) n' cap) (l.eraseIdx i)) := by
    refine ⟨fun p hp => HV.out.1 p (List.mem_of_mem_eraseIdx hp), ?_⟩
    have hx : ∀ cs ∈ (l.eraseIdx i).map nrow, cs.length = 2 := by
      intro cs hcs
      obtain ⟨p, _, rfl⟩ := List.mem_map.1 hcs
      rfl
    have hlen : ((l.eraseIdx i).map nrow).length = n' := by rw [List.length_map, List.length_eraseIdx, if_pos hi]; omega
    have hW1 : OwnR W base 73 2 (.slice (some ⟨g, 0, none⟩) n' cap) ((l.eraseIdx i).map nrow) := by
      refine own_of_blk hx bw.1 HB.out.2.1 (by omega) HB.out.2.2.1 hsz2 ?_ hlen
      have e1 : ((l.eraseIdx i).map nrow).flatten = ((l.map nrow).take i).flatten ++ news := by
        rw [List.eraseIdx_eq_take_drop_succ, List.map_append, List.flatten_append, HB.out.2.2.2.2.2, List.map_take, List.map_drop]
      have e2 : (over cur.toList (i * 2) news).toArray.toList = over cur.toList (i * 2) news := by simp
      have e3 : ((l.map nrow).take i).flatten = cur.toList.take (i * 2) := by
        rw [← flat_take _ HV.out.2.1 i, ← HB.out.2.2.2.2.1, List.take_take, Nat.min_eq_left (by omega)]
      rw [e2, e1, e3]
      unfold over
      have hlt : (cur.toList.take (i * 2) ++ news).length = n' * 2 := by
        rw [List.length_append, List.length_take, HS.out.2.2.1]
        have : cur.toList.length = cap * 2 := by simpa using HB.out.2.2.2.1
        omega
      rw [List.take_append_of_le_length (by omega), List.take_of_length_le (by omega)]
    have := hW1.firstOver n' (Nat.le_refl _) _ bw.1 zs (by rw [hzl, hsz2]; omega) bv.1
    rw [List.take_of_length_le (by omega)] at this
    exact this
  have HG : Hid (w.grownBy V (some g)) := grown_trans (grown_trans (grown_up (up_dr (Below.refl _ _)) _) bw.2) bv.2
  have hd : l.length - n' = 1 := by omega
  have hne3 : ¬ cap = n' := by omega
  have hd1 : (n' : Int) ≤ (l.length : Int) := by omega
  have hd2 : (l.length : Int) ≤ (cap : Int) := by omega
  clear bw bv hV hW hsz2 hfit1 hzl hzs hn' hn2
  go_wp2_with fail
  go_ret
  exact ⟨_, rfl, HOw.out, HG.out, rfl⟩
end Go.Proofs.Ytoceddpjkodfkaa
