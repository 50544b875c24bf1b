/- The texts M4, R5, in this order. -/
import Derived.Test.YtnchjlimkgbfpaaGreatDoorJ16

namespace Go.Proofs.YtnchjlimkgbfpaaGreatDoor
open Go.RowKit
set_option linter.unusedVariables false
set_option maxRecDepth 20000
theorem lessL_total : ∀ a b : List Int, lessL a b = true ∨ a = b ∨ lessL b a = true
  | [], [] => .inr (.inl rfl)
  | [], y :: b => .inl (by simp [lessL])
  | x :: a, [] => .inr (.inr (by simp [lessL]))
  | x :: a, y :: b => by
    rcases Int.lt_trichotomy x y with c | c | c
    · exact .inl (lessL_head x y c a b)
    · subst c
      rw [lessL_same, lessL_same]
      rcases lessL_total a b with q | q | q
      · exact .inl q
      · exact .inr (.inl (by rw [q]))
      · exact .inr (.inr q)
    · exact .inr (.inr (lessL_head y x c b a))
theorem drop_head {A : Type} {p : A → Bool} : ∀ {l : List A} {z : A} {r : List A}, l.dropWhile p = z :: r → p z = false
  | [], z, r, h => by simp at h
  | x :: l, z, r, h => by
    rw [List.dropWhile_cons] at h
    split at h
    · exact drop_head h
    · rename_i hx
      simp only [List.cons.injEq] at h
      rw [← h.1]
      simpa using hx
theorem rank_take {A : Type} (p : A → Bool) (l : List A) : l.take (rankOf p l) = l.takeWhile p := by
  have h : l.takeWhile p ++ l.dropWhile p = l := List.takeWhile_append_dropWhile
  unfold rankOf
  generalize l.takeWhile p = a at *
  generalize l.dropWhile p = b at *
  subst h
  simp
theorem rank_drop {A : Type} (p : A → Bool) (l : List A) : l.drop (rankOf p l) = l.dropWhile p := by
  have h : l.takeWhile p ++ l.dropWhile p = l := List.takeWhile_append_dropWhile
  unfold rankOf
  generalize l.takeWhile p = a at *
  generalize l.dropWhile p = b at *
  subst h
  simp
theorem mem_tw {A : Type} {p : A → Bool} : ∀ {l : List A} {x : A}, x ∈ l.takeWhile p → p x = true
  | [], x, h => by simp at h
  | y :: l, x, h => by
    rw [List.takeWhile_cons] at h
    split at h
    · rename_i hy
      rcases List.mem_cons.1 h with rfl | h
      · exact hy
      · exact mem_tw h
    · simp at h
theorem behind_greater {l : List (List Int × Int)} (h : l.Pairwise fun a b => lessL a.1 b.1 = true) {t : List Int} (hn : thereN l t = false) : ∀ y ∈ l.dropWhile (fun p => lessL p.1 t), lessL t y.1 = true := by
  cases hd : l.dropWhile (fun p => lessL p.1 t) with
  | nil => intro y hy; cases hy
  | cons z r =>
    have hz := drop_head hd
    have hsub : (z :: r).Pairwise fun a b => lessL a.1 b.1 = true := by
      rw [← hd]
      exact h.sublist (List.dropWhile_sublist _)
    have hdr : l.drop (rankN l t) = z :: r := by
      unfold rankN
      rw [rank_drop, hd]
    have hlt : rankN l t < l.length := by
      have := congrArg List.length hdr
      simp only [List.length_drop, List.length_cons] at this
      omega
    have hg : l.getD (rankN l t) ([], 0) = z := by
      rw [List.drop_eq_getElem_cons hlt] at hdr
      simp only [List.cons.injEq] at hdr
      simp [List.getD, hlt, hdr.1]
    have hne : ¬ z.1 = t := by
      intro e
      unfold thereN at hn
      rw [hg] at hn
      simp [hlt, e] at hn
    have hz2 : lessL t z.1 = true := by
      rcases lessL_total t z.1 with q | q | q
      · exact q
      · exact absurd q.symm hne
      · rw [hz] at q; cases q
    intro y hy
    rcases List.mem_cons.1 hy with rfl | hy
    · exact hz2
    · exact lessL_trans _ _ _ hz2 ((List.pairwise_cons.1 hsub).1 y hy)
theorem ins_rise {l : List (List Int × Int)} (h : l.Pairwise fun a b => lessL a.1 b.1 = true) {t : List Int} (id : Int) (hn : thereN l t = false) : (insN l (rankN l t) (t, id)).Pairwise fun a b => lessL a.1 b.1 = true := by
  have hb := behind_greater h hn
  unfold insN rankN
  rw [rank_take, rank_drop]
  have hl : l.takeWhile (fun p => lessL p.1 t) ++ l.dropWhile (fun p => lessL p.1 t) = l := List.takeWhile_append_dropWhile
  rw [← hl, List.pairwise_append] at h
  rw [List.pairwise_append]
  refine ⟨h.1, List.pairwise_cons.2 ⟨hb, h.2.1⟩, ?_⟩
  intro y hy z hz
  rcases List.mem_cons.1 hz with rfl | hz
  · exact mem_tw (p := fun p : List Int × Int => lessL p.1 t) hy
  · exact h.2.2 y hy z hz
theorem ins_perm (l : List (List Int × Int)) (i : Nat) (x : List Int × Int) : (insN l i x).Perm (x :: l) := by
  unfold insN
  have := List.perm_middle (a := x) (l₁ := l.take i) (l₂ := l.drop i)
  rwa [List.take_append_drop] at this
theorem ins_good {fs : List (Int × List Int × Int)} {l : List (List Int × Int)} (h : NamesGood fs l) {t : List Int} {id : Int} (hm : mayOf t = true) (hn : thereN l t = false) (hid : id ∈ fs.map (·.1)) (hno : id ∉ l.map (·.2)) : NamesGood fs (insN l (rankN l t) (t, id)) := by
  refine ⟨?_, ins_rise h.rise id hn, ?_, ?_⟩
  · intro p hp
    rcases insN_mem hp with rfl | hp
    · exact hm
    · exact h.may p hp
  · intro p hp
    rcases insN_mem hp with rfl | hp
    · exact hid
    · exact h.ids p hp
  · rw [((ins_perm l _ _).map (·.2)).nodup_iff]
    exact List.nodup_cons.2 ⟨hno, h.once⟩
theorem create_good {s : St} (h : Good s) (name : List Int) : Good (createP s name).1 := by
  unfold createP
  by_cases c1 : mayOf name = true
  · rw [if_pos c1]
    by_cases c2 : thereN s.names name = true
    · rw [if_pos c2]; exact h
    · rw [if_neg c2]
      by_cases c3 : s.files.length = 256 ∨ s.next = 2147483647
      · rw [if_pos c3]; exact h
      · rw [if_neg c3]
        have hn : thereN s.names name = false := by simpa using c2
        have few := h.few
        have n0 := h.next0
        have n1 := h.next1
        have idx : (s.files ++ [(s.next, ([] : List Int), (0 : Int))]).map (fun f => f.1) = s.files.map (fun f => f.1) ++ [s.next] := by simp
        have hno : ∀ l, NamesGood s.files l → s.next ∉ l.map (·.2) := by
          intro l hl q
          obtain ⟨p, hp, e⟩ := List.mem_map.1 q
          obtain ⟨f, hf, e2⟩ := List.mem_map.1 (hl.ids p hp)
          have := (h.ids f hf).2
          omega
        have over : ∀ l, NamesGood s.files l → NamesGood (s.files ++ [(s.next, [], 0)]) l := fun l hl => hl.over fun p hp => by
          rw [idx]
          exact List.mem_append.2 (.inl (hl.ids p hp))
        refine ⟨⟨h.cap0, h.cap1, by simp only; omega, by simp only; omega, by simp; omega, ?_, ?_, ?_, ?_, ?_, over _ h.safe⟩, ?_⟩
        · simp only
          rw [List.pairwise_append]
          refine ⟨h.rise, by simp, ?_⟩
          intro f hf g hg
          simp at hg
          subst hg
          exact (h.ids f hf).2
        · intro f hf
          simp only
          rcases List.mem_append.1 hf with hf | hf
          · have := h.ids f hf
            omega
          · simp at hf
            subst hf
            simp only
            omega
        · intro f hf
          rcases List.mem_append.1 hf with hf | hf
          · exact h.sync f hf
          · simp at hf
            subst hf
            simp
        · simp only
          rw [used_append]
          have := h.used
          simp [usedOf] at this ⊢
          exact this
        · exact ins_good (over _ h.names) c1 hn (by rw [idx]; simp) (hno _ h.names)
        · intro f hf
          simp only
          have hp := (ins_perm s.names (rankN s.names name) (name, s.next)).map (·.2)
          rcases List.mem_append.1 hf with hf | hf
          · rcases h.all f hf with q | q
            · exact .inl (hp.mem_iff.2 (List.mem_cons.2 (.inr q)))
            · exact .inr q
          · simp at hf
            subst hf
            exact .inl (hp.mem_iff.2 (List.mem_cons.2 (.inl rfl)))
  · rw [if_neg c1]; exact h
theorem used_set : ∀ (l : List (Int × List Int × Int)) (i : Nat) (hi : i < l.length) (f : Int × List Int × Int), usedOf (l.set i f) = usedOf l - (l[i].2.1.length : Int) + (f.2.1.length : Int)
  | x :: l, 0, _, f => by
    rw [List.set_cons_zero, used_cons, used_cons]
    simp
    omega
  | x :: l, i + 1, hi, f => by
    rw [List.set_cons_succ, used_cons, used_cons, used_set l i (by simpa using hi) f]
    simp
    omega
  | [], i, hi, f => by simp at hi
theorem has_lt {s : St} {name : List Int} (h : hasF s name = true) : idxF s name < s.files.length := by
  unfold hasF thereF at h
  simp only [Bool.and_eq_true, decide_eq_true_eq] at h
  exact h.2.1
theorem good_set {s : St} (h : Good s) (i : Nat) (hi : i < s.files.length) (f : Int × List Int × Int) (h1 : f.1 = (fileD s i).1) (h2 : 0 ≤ f.2.2 ∧ f.2.2 ≤ (f.2.1.length : Int)) (h3 : usedOf s.files - ((fileD s i).2.1.length : Int) + (f.2.1.length : Int) ≤ s.cap) : Good { s with files := s.files.set i f } := by
  have e : fileD s i = s.files[i] := by simp [fileD, List.getD, hi]
  rw [e] at h1 h3
  refine good_files h ?_ ?_ ?_
  · rw [List.map_set, h1]
    apply List.ext_getElem
    · simp
    · intro j q1 q2
      rw [List.getElem_set]
      split
      · rename_i q
        subst q
        simp
      · rfl
  · intro g hg
    rcases List.mem_or_eq_of_mem_set hg with hg | rfl
    · exact h.sync g hg
    · exact h2
  · rw [used_set s.files i hi f]
    exact h3
theorem extend_good {s : St} (h : Good s) (name data : List Int) : Good (extendP s name data).1 := by
  unfold extendP
  by_cases c1 : hasF s name = true
  · rw [if_pos c1]
    by_cases c2 : s.cap - usedOf s.files < (data.length : Int)
    · rw [if_pos c2]; exact h
    · rw [if_neg c2]
      have hi := has_lt c1
      have hs := h.sync (fileD s (idxF s name)) (by simp [fileD, List.getD, hi])
      refine good_set h _ hi _ rfl ?_ ?_
      · simp only [List.length_append]
        omega
      · simp only [List.length_append]
        omega
  · rw [if_neg c1]; exact h
theorem sync_good {s : St} (h : Good s) (name : List Int) : Good (syncP s name).1 := by
  unfold syncP
  by_cases c1 : hasF s name = true
  · rw [if_pos c1]
    have hi := has_lt c1
    refine good_set h _ hi _ rfl ?_ ?_
    · simp only
      omega
    · simp only
      have := h.used
      omega
  · rw [if_neg c1]; exact h
theorem remove_good {s : St} (h : Good s) (name : List Int) : Good (removeP s name).1 := by
  unfold removeP
  by_cases c1 : thereN s.names name = true
  · rw [if_pos c1]
    exact nearly_swept (nearly_names h.toNearly (h.names.sub (List.eraseIdx_sublist _ _)))
  · rw [if_neg c1]; exact h
theorem syncNames_good {s : St} (h : Good s) : Good (syncNamesP s) := nearly_swept (nearly_safe h.toNearly h.names)
theorem erase_perm {A : Type} : ∀ (l : List A) (i : Nat) (hi : i < l.length), l.Perm (l[i] :: l.eraseIdx i)
  | x :: l, 0, _ => by simp
  | x :: l, i + 1, hi => by
    have h := erase_perm l i (by simpa using hi)
    simp only [List.getElem_cons_succ, List.eraseIdx_cons_succ]
    exact (h.cons x).trans (List.Perm.swap _ _ _)
  | [], i, hi => by simp at hi
theorem set_perm {A : Type} : ∀ (l : List A) (i : Nat) (hi : i < l.length) (a : A), (l.set i a).Perm (a :: l.eraseIdx i)
  | x :: l, 0, _, a => by simp
  | x :: l, i + 1, hi, a => by
    have h := set_perm l i (by simpa using hi) a
    simp only [List.set_cons_succ, List.eraseIdx_cons_succ]
    exact (h.cons x).trans (List.Perm.swap _ _ _)
  | [], i, hi, a => by simp at hi
theorem erase_not {l : List (List Int × Int)} (h : (l.map (·.2)).Nodup) {i : Nat} (hi : i < l.length) : (l.getD i ([], 0)).2 ∉ (l.eraseIdx i).map (·.2) := by
  have e : l.getD i ([], 0) = l[i] := by simp [List.getD, hi]
  rw [e]
  have hp : l.Perm (l[i] :: l.eraseIdx i) := erase_perm l i hi
  have := (hp.map (·.2)).nodup_iff.1 h
  exact (List.nodup_cons.1 this).1
theorem renamed_good {fs : List (Int × List Int × Int)} {l : List (List Int × Int)} (h : NamesGood fs l) {t : List Int} {id : Int} (hm : mayOf t = true) (hid : id ∈ fs.map (·.1)) (hno : id ∉ l.map (·.2)) : NamesGood fs (renamed l t id) := by
  unfold renamed
  by_cases c : thereN l t = true
  · rw [if_pos c]
    have hi := lt_of_thereN c
    have e : l.getD (rankN l t) ([], 0) = l[rankN l t] := by simp [List.getD, hi]
    rw [e]
    refine ⟨?_, ?_, ?_, ?_⟩
    · intro p hp
      rcases List.mem_or_eq_of_mem_set hp with hp | rfl
      · exact h.may p hp
      · show mayOf l[rankN l t].1 = true
        exact h.may _ (List.getElem_mem hi)
    · have key : (l.set (rankN l t) (l[rankN l t].1, id)).map (·.1) = l.map (·.1) := by
        rw [List.map_set]
        apply List.ext_getElem
        · simp
        · intro j q1 q2
          rw [List.getElem_set]
          split
          · rename_i q
            subst q
            simp
          · rfl
      have h1 := h.rise
      rw [← List.pairwise_map (f := fun p : List Int × Int => p.1) (R := fun a b => lessL a b = true)] at h1 ⊢
      rw [key]
      exact h1
    · intro p hp
      rcases List.mem_or_eq_of_mem_set hp with hp | rfl
      · exact h.ids p hp
      · exact hid
    · rw [List.map_set]
      have hp := set_perm (l.map (·.2)) (rankN l t) (by simpa using hi) id
      rw [hp.nodup_iff]
      refine List.nodup_cons.2 ⟨fun q => hno ((List.eraseIdx_sublist _ _).subset q), h.once.sublist (List.eraseIdx_sublist _ _)⟩
  · rw [if_neg c]
    exact ins_good h hm (by simpa using c) hid hno
theorem rename_good {s : St} (h : Good s) (name tn : List Int) : Good (renameP s name tn).1 := by
  unfold renameP
  by_cases c1 : thereN s.names name = true
  · rw [if_pos c1]
    by_cases c2 : mayOf tn = true
    · rw [if_pos c2]
      by_cases c3 : tn = name
      · rw [if_pos c3]; exact h
      · rw [if_neg c3]
        have hi := lt_of_thereN c1
        have hid : idN s name ∈ s.files.map (·.1) := by
          unfold idN
          refine h.names.ids _ ?_
          simp [List.getD, hi]
        exact nearly_swept (nearly_names h.toNearly (renamed_good (h.names.sub (List.eraseIdx_sublist _ _)) c2 hid (erase_not h.names.once hi)))
    · rw [if_neg c2]; exact h
  · rw [if_neg c1]; exact h
theorem act_good {s : St} (h : Good s) (a : Ac) : Good (actP s a).1 := by
  unfold actP
  split
  · exact create_good h _
  · split
    · exact extend_good h _ _
    · split
      · exact sync_good h _
      · split
        · exact rename_good h _ _
        · split
          · exact remove_good h _
          · split
            · exact syncNames_good h
            · exact h
theorem after_good {s : St} (h : Good s) (l : List Ac) : ∀ k, k ≤ l.length → Good ((l.take k).foldl (fun s a => (actP s a).1) s) := by
  intro k _
  generalize l.take k = m
  induction m generalizing s with
  | nil => exact h
  | cons a m ih => exact ih (act_good h a)
end Go.Proofs.YtnchjlimkgbfpaaGreatDoor

namespace Go.Proofs.YtnchjlimkgbfpaaGreatDoor
open Go.RowKit
set_option linter.unusedVariables false
set_option maxRecDepth 20000
set_option linter.unusedSimpArgs false
theorem results_state2 {fn : Func} {r k j : Nat} (h : fn.results = #[.cell r 35, .tmp k, .tmp j]) (tmps : Array Value) (w : World) {N : Nat} {a b c d e x y : Value} (ht : tmps.getD r undef = .pointer (some ⟨N, 0, none⟩)) (hx : tmps.getD k undef = x) (hy : tmps.getD j undef = y)
    (hc : w.heap[N]? = some (.cells #[a, b, c, d, e] 35)) : (results fn tmps).run Tryz.prog w = .ok (.tuple #[.agg #[a, b, c, d, e], x, y]) w := by
  have c0 := blk_cell hc 0 a rfl
  have c1 := blk_cell hc 1 b rfl
  have c2 := blk_cell hc 2 c rfl
  have c3 := blk_cell hc 3 d rfl
  have c4 := blk_cell hc 4 e rfl
  have ht' : tmps[r]?.getD undef = .pointer (some ⟨N, 0, none⟩) := by simpa using ht
  have hx' : tmps[k]?.getD undef = x := by simpa using hx
  have hy' : tmps[j]?.getD undef = y := by simpa using hy
  simp only [results, h]
  simp [ht', hx', hy', go_sem, c0, c1, c2, c3, c4]
abbrev ARow := Value × Ac
def arow (y : ARow) : List Value := [.int .i64 y.2.what, .string (strOfNums y.2.name), .string (strOfNums y.2.dest), y.1]
def ActsW (w : World) (v : Value) (l : List Ac) : Prop := ∃ m : List ARow, m.map (·.2) = l ∧ Rws 4 w v (m.map arow) ∧ ∀ y ∈ m, Octs w y.1 y.2.data ∧ okAc y.2
theorem ActsW.up {w w' : World} {v : Value} {l : List Ac} (h : ActsW w v l) (hb : Below w.heap.size w w') : ActsW w' v l := by
  obtain ⟨m, h1, h2, h3⟩ := h
  exact ⟨m, h1, h2.up hb, fun y hy => ⟨(h3 y hy).1.up hb, (h3 y hy).2⟩⟩
theorem ActsW.len {w : World} {v : Value} {l : List Ac} (h : ActsW w v l) : ∃ a cap, v = .slice a l.length cap ∧ l.length ≤ cap ∧ cap ≤ maxLen := by
  obtain ⟨m, rfl, h2, _⟩ := h
  obtain ⟨a, cap, e, h1, h2⟩ := h2.len
  rw [List.length_map] at e h1
  rw [List.length_map]
  exact ⟨a, cap, e, h1, h2⟩
def noAc : Ac := ⟨0, [], [], []⟩
theorem ActsW.at {w : World} {v : Value} {l : List Ac} (h : ActsW w v l) (k : Nat) (hk : k < l.length) : ∃ b off cap ad cd, v = .slice (some ⟨b, off, none⟩) l.length cap ∧
    w.cell? ⟨b, off + k * 4, none⟩ = some (.int .i64 (l.getD k noAc).what) ∧ w.cell? ⟨b, off + k * 4 + 1, none⟩ = some (.string (strOfNums (l.getD k noAc).name)) ∧ w.cell? ⟨b, off + k * 4 + 2, none⟩ = some (.string (strOfNums (l.getD k noAc).dest)) ∧ w.cell? ⟨b, off + k * 4 + 3, none⟩ = some (.slice ad (l.getD k noAc).data.length cd) ∧
    AcW w (.agg #[.int .i64 (l.getD k noAc).what, .string (strOfNums (l.getD k noAc).name), .string (strOfNums (l.getD k noAc).dest), .slice ad (l.getD k noAc).data.length cd]) (l.getD k noAc) := by
  obtain ⟨m, rfl, h2, h3⟩ := h
  rw [List.length_map] at hk ⊢
  obtain ⟨b, off, cap, e, _, _, hc⟩ := h2.at k (by rw [List.length_map]; exact hk)
  rw [List.length_map] at e
  have hr : (m.map arow).getD k [] = arow m[k] := by simp [List.getD, hk]
  have hr2 : (m.map (·.2)).getD k noAc = m[k].2 := by simp [List.getD, hk]
  rw [hr] at hc
  rw [hr2]
  have h4 := h3 m[k] (List.getElem_mem hk)
  obtain ⟨ad, cd, evd, _⟩ := h4.1.slice
  have c0 := hc 0 _ rfl
  have c1 := hc 1 _ rfl
  have c2 := hc 2 _ rfl
  have c3 := hc 3 _ rfl
  rw [evd] at c3 h4
  exact ⟨b, off, cap, ad, cd, e, c0, c1, c2, c3, _, rfl, h4.1, h4.2⟩
def afterN (s : St) (l : List Ac) (k : Nat) : St := (l.take k).foldl (fun s a => (actP s a).1) s
theorem afterN_zero (s : St) (l : List Ac) : afterN s l 0 = s := rfl
theorem afterN_succ (s : St) (l : List Ac) (k : Nat) (hk : k < l.length) : afterN s l (k + 1) = (actP (afterN s l k) (l.getD k noAc)).1 := by
  unfold afterN
  rw [take_snoc l k noAc hk, List.foldl_append]
  rfl
def goP : St → List Ac → St × Int × Int
  | s, [] => (s, 0, 0)
  | s, a :: l => if (actP s a).2 = 0 then ((goP (actP s a).1 l).1, (goP (actP s a).1 l).2.1 + 1, (goP (actP s a).1 l).2.2) else ((actP s a).1, 0, (actP s a).2)
theorem goP_at : ∀ (l : List Ac) (s : St) (k : Nat), k ≤ l.length → (∀ j, j < k → (actP (afterN s l j) (l.getD j noAc)).2 = 0) → goP s l = ((goP (afterN s l k) (l.drop k)).1, (goP (afterN s l k) (l.drop k)).2.1 + k, (goP (afterN s l k) (l.drop k)).2.2)
  | l, s, 0, _, _ => by simp [afterN_zero]
  | [], s, k + 1, hk, _ => by simp at hk
  | a :: l, s, k + 1, hk, h => by
    have h0 : (actP s a).2 = 0 := h 0 (by omega)
    have hn : ∀ j, afterN s (a :: l) (j + 1) = afterN (actP s a).1 l j := fun j => rfl
    have ih := goP_at l (actP s a).1 k (by simpa using hk) (fun j hj => by
      have := h (j + 1) (by omega)
      rw [hn] at this
      simpa using this)
    rw [hn, List.drop_succ_cons, goP, if_pos h0, ih]
    simp
    omega
def runP (s : St) (l : List Ac) : St × Int × Int := if checkP s then goP s l else (z0, 0, 9)
def OkTo (s : St) (l : List Ac) (k : Nat) : Prop := ∀ j, j < k → (actP (afterN s l j) (l.getD j noAc)).2 = 0
theorem run_end {s : St} {l : List Ac} (h : OkTo s l l.length) : goP s l = (afterN s l l.length, (l.length : Int), 0) := by
  rw [goP_at l s l.length (Nat.le_refl _) h, List.drop_length]
  simp [goP]
theorem run_stop {s : St} {l : List Ac} {k : Nat} (h : OkTo s l k) (hk : k < l.length) (hz : ¬ (actP (afterN s l k) (l.getD k noAc)).2 = 0) : goP s l = ((actP (afterN s l k) (l.getD k noAc)).1, (k : Int), (actP (afterN s l k) (l.getD k noAc)).2) := by
  rw [goP_at l s k (by omega) h]
  have e : l.drop k = l.getD k noAc :: l.drop (k + 1) := by
    rw [List.drop_eq_getElem_cons hk]
    simp [List.getD, hk]
  rw [e, goP, if_neg hz]
  simp
theorem okTo_succ {s : St} {l : List Ac} {k : Nat} (h : OkTo s l k) (hz : (actP (afterN s l k) (l.getD k noAc)).2 = 0) : OkTo s l (k + 1) := by
  intro j hj
  by_cases e : j = k
  · rw [e]; exact hz
  · exact h j (by omega)
theorem run_next {s : St} {l : List Ac} {w1 y w3 : World} {B : Nat} {k : Nat} {ix : Value} (hk : k < l.length) (hx : ix = .int .i64 ((k + 1 : Nat) : Int)) (O : Hid (OwnS w3 w1.heap.size B (afterN s l (k + 1)))) (be : Hid (Beside w1.heap.size B y w3)) (ok : Hid (OkTo s l (k + 1))) :
    (∃ (k : Nat), k ≤ l.length ∧ ix = .int .i64 k ∧ Hid (OwnS w3 w1.heap.size B (afterN s l k)) ∧ Hid (Beside w1.heap.size B y w3) ∧ Hid (OkTo s l k)) ∧ l.length - (intOf ix).toNat < l.length - (intOf (Value.int .i64 (k : Int))).toNat := by
  refine ⟨⟨k + 1, by omega, hx, O, be, ok⟩, ?_⟩
  subst hx
  simp only [intOf]
  omega
set_option maxHeartbeats 4000000 in
set_option maxRecDepth 20000 in
theorem run_any (s : St) (l : List Ac) (v vk : Value) (w : World) (hv : StW w v s) (hk : ActsW w vk l) (hl : s.names.length + s.safe.length ≤ 9223372036854775807) (hall : checkP s = true → ∀ k, k ≤ l.length → Sound (afterN s l k)) :
    Calls Tryz.prog 64 #[v, vk] w fun e w' => ∃ v', e = .returned (.tuple #[v', .int .i64 (runP s l).2.1, .int .i64 (runP s l).2.2]) ∧ OwnV w' w.heap.size v' (runP s l).1 ∧ Below w.heap.size w w' := by
  have HA : Hid (checkP s = true → ∀ k, k ≤ l.length → Sound (afterN s l k)) := hall
  clear hall
  obtain ⟨af, nf, cf, an, nn, cn, as', ns, cs', ev⟩ := hv.shape
  obtain ⟨ak, ck, evk, hck, hmk⟩ := hk.len
  subst evk
  subst ev
  obtain ⟨B, hB⟩ : ∃ B, B = w.heap.size := ⟨_, rfl⟩
  obtain ⟨wx, hwx⟩ : ∃ wx, wx = (w.alloc (.cells #[.int .i64 s.cap, .slice af nf cf, .slice an nn cn, .slice as' ns cs', .int .i64 s.next] 35)).alloc (.cells #[.int .i64 0, .slice none 0 0, .slice none 0 0, .slice none 0 0, .int .i64 0] 35) := ⟨_, rfl⟩
  have HX : Hid ((w.alloc (.cells #[.int .i64 s.cap, .slice af nf cf, .slice an nn cn, .slice as' ns cs', .int .i64 s.next] 35)).alloc (.cells #[.int .i64 0, .slice none 0 0, .slice none 0 0, .slice none 0 0, .int .i64 0] 35) = wx) := hwx.symm
  have b0 : wx.heap[B]? = some (.cells #[.int .i64 s.cap, .slice af nf cf, .slice an nn cn, .slice as' ns cs', .int .i64 s.next] 35) := by
    rw [hwx, hB]
    exact blk_two0 w _ _
  have b2 : wx.heap[B + 1]? = some (.cells #[.int .i64 0, .slice none 0 0, .slice none 0 0, .slice none 0 0, .int .i64 0] 35) := by
    rw [hwx, hB]
    exact blk_two1 w _ _
  have up : Hid (Below w.heap.size w wx) := by rw [hwx]; exact up_al (up_al (Below.refl _ _) _) _
  have HB : Hid (wx.heap[B]? = some (.cells #[.int .i64 s.cap, .slice af nf cf, .slice an nn cn, .slice as' ns cs', .int .i64 s.next] 35) ∧ wx.heap[B + 1]? = some (.cells #[.int .i64 0, .slice none 0 0, .slice none 0 0, .slice none 0 0, .int .i64 0] 35)) := ⟨b0, b2⟩
  have HS : Hid (StW w (.agg #[.int .i64 s.cap, .slice af nf cf, .slice an nn cn, .slice as' ns cs', .int .i64 s.next]) s ∧ ActsW w (.slice ak l.length ck) l ∧ B = w.heap.size) := ⟨hv, hk, hB⟩
  clear b0 b2 hwx hv hk
  go_enter Tryz.func64, Tryz.ntmps64
  go_upto_region 1 with fail
  rw [HX.out, ← hB]
  clear HX hB
  have q0 := blk_cell HB.out.1 0 _ rfl
  have q1 := blk_cell HB.out.1 1 _ rfl
  have q2 := blk_cell HB.out.1 2 _ rfl
  have q3 := blk_cell HB.out.1 3 _ rfl
  have q4 := blk_cell HB.out.1 4 _ rfl
  have hc := check_any s _ wx (HS.out.1.up up.out) hl
  cases hchk : checkP s with
  | false =>
    have HR : Hid (runP s l = (z0, 0, 9)) := by unfold Hid runP; rw [hchk]; rfl
    rw [hchk] at hc
    have he : errOf false = 9 := rfl
    rw [he] at hc
    clear hchk he
    go_wp2_with fail
    refine hc.mono ?_
    rintro e w1 ⟨rfl, u1⟩
    have HB1 : Hid (w1.heap[B + 1]? = some (.cells #[.int .i64 0, .slice none 0 0, .slice none 0 0, .slice none 0 0, .int .i64 0] 35)) := blk_up HB.out.2 u1
    have up1 : Hid (Below w.heap.size w w1) := up_trans up.out u1
    clear u1 hc q0 q1 q2 q3 q4
    have x0 := blk_cell HB1.out 0 _ rfl
    have x1 := blk_cell HB1.out 1 _ rfl
    have x2 := blk_cell HB1.out 2 _ rfl
    have x3 := blk_cell HB1.out 3 _ rfl
    have x4 := blk_cell HB1.out 4 _ rfl
    have f0 := blk_frozen HB1.out 0
    have f1 := blk_frozen HB1.out 1
    have f2 := blk_frozen HB1.out 2
    have f3 := blk_frozen HB1.out 3
    have f4 := blk_frozen HB1.out 4
    go_wp2_with fail
    have b5 := set5_blk HB1.out (.int .i64 0) (.slice none 0 0) (.slice none 0 0) (.slice none 0 0) (.int .i64 0)
    refine bodyPost_ret (results_state2 rfl _ _ rfl rfl rfl b5) rfl ?_
    rw [HR.out]
    refine ⟨_, rfl, OwnV.zero _ _ 0 0 in64_0 in64_0, ?_⟩
    exact up1.out.grown (set5_grown _ _ _ _ _ _ _) up1.out.size (fun j hj => by injection hj with hj; rw [← hj, HS.out.2.2]; omega)
  | true =>
    have HSo : Hid (Sound s ∧ ∀ k, k ≤ l.length → Sound (afterN s l k)) := ⟨check_sound hchk, HA.out hchk⟩
    have HR : Hid (runP s l = goP s l) := by unfold Hid runP; rw [hchk]; rfl
    rw [hchk] at hc
    have he : errOf true = 0 := rfl
    rw [he] at hc
    clear hchk he
    go_wp2_with fail
    refine hc.mono ?_
    rintro e w1 ⟨rfl, u1⟩
    have HB1 : Hid (w1.heap[B]? = some (.cells #[.int .i64 s.cap, .slice af nf cf, .slice an nn cn, .slice as' ns cs', .int .i64 s.next] 35) ∧ w1.heap[B + 1]? = some (.cells #[.int .i64 0, .slice none 0 0, .slice none 0 0, .slice none 0 0, .int .i64 0] 35)) := ⟨blk_up HB.out.1 u1, blk_up HB.out.2 u1⟩
    have up1 : Hid (Below w.heap.size w w1) := up_trans up.out u1
    clear u1 hc q0 q1 q2 q3 q4
    have q0 := blk_cell HB1.out.1 0 _ rfl
    have q1 := blk_cell HB1.out.1 1 _ rfl
    have q2 := blk_cell HB1.out.1 2 _ rfl
    have q3 := blk_cell HB1.out.1 3 _ rfl
    have q4 := blk_cell HB1.out.1 4 _ rfl
    go_wp2_with fail
    refine (copied_anyG s _ w1 (HS.out.1.up up1.out) HSo.out.1.1.1 HSo.out.1.1.2.1 HSo.out.1.1.2.2.1).mono ?_
    rintro e w2 ⟨v2, rfl, ov2, u2⟩
    obtain ⟨a1, n1, c1, a2, n2, c2, a3, n3, c3, ev2⟩ := ov2.shape
    subst ev2
    have hb2 : w2.heap[B]? = some (.cells #[.int .i64 s.cap, .slice af nf cf, .slice an nn cn, .slice as' ns cs', .int .i64 s.next] 35) := blk_up HB1.out.1 u2
    have hpt := ov2.put hb2
    have g5 := set5_grown w2 B (.int .i64 s.cap) (.slice a1 n1 c1) (.slice a2 n2 c2) (.slice a3 n3 c3) (.int .i64 s.next)
    clear q0 q1 q2 q3 q4
    have q0 := blk_cell hb2 0 _ rfl
    have q1 := blk_cell hb2 1 _ rfl
    have q2 := blk_cell hb2 2 _ rfl
    have q3 := blk_cell hb2 3 _ rfl
    have q4 := blk_cell hb2 4 _ rfl
    have f0 := blk_frozen hb2 0
    have f1 := blk_frozen hb2 1
    have f2 := blk_frozen hb2 2
    have f3 := blk_frozen hb2 3
    have f4 := blk_frozen hb2 4
    have HBl : Hid (B + 1 < w1.heap.size) := blk_lt HB1.out.2
    go_upto_region 5 with fail
    obtain ⟨y, hy⟩ : ∃ y, y = set5 w2 B (.int .i64 s.cap) (.slice a1 n1 c1) (.slice a2 n2 c2) (.slice a3 n3 c3) (.int .i64 s.next) := ⟨_, rfl⟩
    have hy' : ((((w2.setCell ⟨B, 0, none⟩ (.int .i64 s.cap)).setCell ⟨B, 1, none⟩ (.slice a1 n1 c1)).setCell ⟨B, 2, none⟩ (.slice a2 n2 c2)).setCell ⟨B, 3, none⟩ (.slice a3 n3 c3)).setCell ⟨B, 4, none⟩ (.int .i64 s.next) = y := by rw [hy]; rfl
    rw [hy']
    rw [← hy] at hpt g5
    have uy : Below w.heap.size w y := (up_trans up1.out u2).grown g5 (Nat.le_trans up1.out.size u2.size) (fun j hj => by injection hj with hj; rw [← hj, HS.out.2.2]; exact Nat.le_refl _)
    have HY : Hid (OwnS y w1.heap.size B s ∧ y.heap[B + 1]? = some (.cells #[.int .i64 0, .slice none 0 0, .slice none 0 0, .slice none 0 0, .int .i64 0] 35) ∧ Below w.heap.size w y ∧ w1.heap.size ≤ y.heap.size) :=
      ⟨hpt.1, blk_grown (blk_up HB1.out.2 u2) g5 (by simp), uy, Nat.le_trans u2.size g5.size⟩
    clear q0 q1 q2 q3 q4 f0 f1 f2 f3 f4 hb2 hpt g5 hy hy' ov2 u2 uy
    have hckm : l.length ≤ 9223372036854775807 := by unfold maxLen at hmk; omega
    go_wp2_with fail
    go_loopw [21] (fun ix wr => ∃ (k : Nat), k ≤ l.length ∧ ix = .int .i64 k ∧ Hid (OwnS wr w1.heap.size B (afterN s l k)) ∧ Hid (Beside w1.heap.size B y wr) ∧ Hid (OkTo s l k)) (fun ix _ => l.length - (intOf ix).toNat)
    case atStart => exact ⟨0, Nat.zero_le _, rfl, HY.out.1, Beside.refl _ _ _, fun j hj => by omega⟩
    case round =>
      obtain ⟨k, hk, rfl, HO, be, ok⟩ := hrel
      have upr : Hid (Below w.heap.size w wr) := HY.out.2.2.1.trans ⟨be.out.os, be.out.tape, be.out.output, be.out.size, fun j hj => be.out.block j (by have := up1.out.size; omega) (by rw [HS.out.2.2]; omega)⟩
      have hb3 : w1.heap.size ≤ wr.heap.size := Nat.le_trans HY.out.2.2.2 be.out.size
      by_cases hlt : k < l.length
      · have hlt' : (k : Int) < (l.length : Int) := by omega
        obtain ⟨bk, ok', cpk, ad, cd, ek, k0, k1, k2, k3, hac⟩ := (HS.out.2.1.up upr.out).at k hlt
        simp at ek
        obtain ⟨rfl, rfl⟩ := ek
        obtain ⟨a, ha⟩ : ∃ a, a = l.getD k noAc := ⟨_, rfl⟩
        rw [← ha] at k0 k1 k2 k3 hac
        obtain ⟨dn, hdn⟩ : ∃ dn, dn = a.data.length := ⟨_, rfl⟩
        rw [← hdn] at k3 hac
        have HAc : Hid (AcW wr (.agg #[.int .i64 a.what, .string (strOfNums a.name), .string (strOfNums a.dest), .slice ad dn cd]) a) := hac
        have HAd : Hid (a = l.getD k noAc) := ha
        have HK : Hid (k < l.length) := hlt
        clear hac ha hdn
        obtain ⟨wz, hwz⟩ : ∃ wz, wz = wr.alloc (.cells #[.int .i64 a.what, .string (strOfNums a.name), .string (strOfNums a.dest), .slice ad dn cd] 94) := ⟨_, rfl⟩
        have uz : Hid (Below wr.heap.size wr wz) := by rw [hwz]; exact up_al (Below.refl _ _) _
        have HWZ : Hid (wr.alloc (.cells #[.int .i64 a.what, .string (strOfNums a.name), .string (strOfNums a.dest), .slice ad dn cd] 94) = wz) := hwz.symm
        clear hwz
        go_wp2_with fail
        rw [HWZ.out]
        refine (act_any (afterN s l k) a _ w1.heap.size B wz (HO.out.up uz.out) (HSo.out.2 k (Nat.le_of_lt HK.out)) (HAc.out.up uz.out) (Nat.le_trans hb3 uz.out.size)).mono ?_
        rintro e w4 ⟨rfl, os4, be4⟩
        have HO4 : Hid (OwnS w4 w1.heap.size B (actP (afterN s l k) a).1 ∧ Beside w1.heap.size B y w4) := ⟨os4, (be.out.trans (Below_beside uz.out hb3)).trans be4⟩
        clear os4 be4 k0 k1 k2 k3
        by_cases hz : (actP (afterN s l k) a).2 = 0
        · have HN : Hid (OwnS w4 w1.heap.size B (afterN s l (k + 1))) := by
            unfold Hid
            rw [afterN_succ s l k HK.out, ← HAd.out]
            exact HO4.out.1
          have HOk : Hid (OkTo s l (k + 1)) := okTo_succ ok.out (by rw [← HAd.out]; exact hz)
          have HB4 : Hid (Beside w1.heap.size B y w4) := HO4.out.2
          go_wp2_with fail
          exact run_next HK.out (by go_num) HN HB4 HOk
        · have hz' : ((actP (afterN s l k) a).2 == 0) = false := by rw [beq_eq_false_iff_ne]; exact hz
          have HG : Hid (runP s l = ((actP (afterN s l k) a).1, (k : Int), (actP (afterN s l k) a).2)) := by
            unfold Hid
            rw [HR.out, HAd.out]
            exact run_stop ok.out HK.out (by rw [← HAd.out]; exact hz)
          have HZ : Hid ((runP s l).2.1 = (k : Int) ∧ (runP s l).2.2 = (actP (afterN s l k) a).2) := by
            unfold Hid
            rw [HG.out]
            exact ⟨rfl, rfl⟩
          have HE : Hid (OwnS w4 w1.heap.size B (runP s l).1 ∧ Below w.heap.size w w4 ∧ w4.heap[B + 1]? = some (.cells #[.int .i64 0, .slice none 0 0, .slice none 0 0, .slice none 0 0, .int .i64 0] 35)) := by
            have bb := HO4.out.2
            refine ⟨by rw [HG.out]; exact HO4.out.1, ?_, ?_⟩
            · exact HY.out.2.2.1.trans ⟨bb.os, bb.tape, bb.output, bb.size, fun j hj => bb.block j (by have := up1.out.size; omega) (by rw [HS.out.2.2]; omega)⟩
            · exact (bb.block (B + 1) HBl.out (by omega)).trans HY.out.2.1
          obtain ⟨vf3, vn3, vs3, hb4, ov3⟩ := HE.out.1.take
          obtain ⟨a4, n4, c4, a5, n5, c5, a7, n7, c7, ev4⟩ := ov3.shape
          simp at ev4
          obtain ⟨rfl, rfl, rfl⟩ := ev4
          have q0 := blk_cell hb4 0 _ rfl
          have q1 := blk_cell hb4 1 _ rfl
          have q2 := blk_cell hb4 2 _ rfl
          have q3 := blk_cell hb4 3 _ rfl
          have q4 := blk_cell hb4 4 _ rfl
          have x0 := blk_cell HE.out.2.2 0 _ rfl
          have x1 := blk_cell HE.out.2.2 1 _ rfl
          have x2 := blk_cell HE.out.2.2 2 _ rfl
          have x3 := blk_cell HE.out.2.2 3 _ rfl
          have x4 := blk_cell HE.out.2.2 4 _ rfl
          have f0 := blk_frozen HE.out.2.2 0
          have f1 := blk_frozen HE.out.2.2 1
          have f2 := blk_frozen HE.out.2.2 2
          have f3 := blk_frozen HE.out.2.2 3
          have f4 := blk_frozen HE.out.2.2 4
          have HP : Hid (OwnV (set5 w4 (B + 1) (.int .i64 (runP s l).1.cap) (.slice a4 n4 c4) (.slice a5 n5 c5) (.slice a7 n7 c7) (.int .i64 (runP s l).1.next)) w1.heap.size (.agg #[.int .i64 (runP s l).1.cap, .slice a4 n4 c4, .slice a5 n5 c5, .slice a7 n7 c7, .int .i64 (runP s l).1.next]) (runP s l).1) := (ov3.put HE.out.2.2).2
          clear ov3 hb4
          go_wp2_with fail
          have b5 := set5_blk HE.out.2.2 (.int .i64 (runP s l).1.cap) (.slice a4 n4 c4) (.slice a5 n5 c5) (.slice a7 n7 c7) (.int .i64 (runP s l).1.next)
          refine bodyPost_ret (results_state2 rfl _ _ rfl rfl rfl b5) rfl ?_
          rw [HZ.out.1, HZ.out.2]
          refine ⟨_, rfl, HP.out.mono up1.out.size, ?_⟩
          exact HE.out.2.1.grown (set5_grown _ _ _ _ _ _ _) HE.out.2.1.size (fun j hj => by injection hj with hj; rw [← hj, HS.out.2.2]; omega)
      · have hlt' : ¬ (k : Int) < (l.length : Int) := by omega
        obtain rfl : k = l.length := by omega
        have HG : Hid (runP s l = (afterN s l l.length, (l.length : Int), 0)) := by
          unfold Hid
          rw [HR.out]
          exact run_end ok.out
        have HZ : Hid ((runP s l).2.1 = (l.length : Int) ∧ (runP s l).2.2 = 0) := by
          unfold Hid
          rw [HG.out]
          exact ⟨rfl, rfl⟩
        have HE : Hid (OwnS wr w1.heap.size B (runP s l).1 ∧ Below w.heap.size w wr ∧ wr.heap[B + 1]? = some (.cells #[.int .i64 0, .slice none 0 0, .slice none 0 0, .slice none 0 0, .int .i64 0] 35)) := by
          have bb := be.out
          refine ⟨by rw [HG.out]; exact HO.out, upr.out, ?_⟩
          exact (bb.block (B + 1) HBl.out (by omega)).trans HY.out.2.1
        obtain ⟨vf3, vn3, vs3, hb4, ov3⟩ := HE.out.1.take
        obtain ⟨a4, n4, c4, a5, n5, c5, a7, n7, c7, ev4⟩ := ov3.shape
        simp at ev4
        obtain ⟨rfl, rfl, rfl⟩ := ev4
        have q0 := blk_cell hb4 0 _ rfl
        have q1 := blk_cell hb4 1 _ rfl
        have q2 := blk_cell hb4 2 _ rfl
        have q3 := blk_cell hb4 3 _ rfl
        have q4 := blk_cell hb4 4 _ rfl
        have x0 := blk_cell HE.out.2.2 0 _ rfl
        have x1 := blk_cell HE.out.2.2 1 _ rfl
        have x2 := blk_cell HE.out.2.2 2 _ rfl
        have x3 := blk_cell HE.out.2.2 3 _ rfl
        have x4 := blk_cell HE.out.2.2 4 _ rfl
        have f0 := blk_frozen HE.out.2.2 0
        have f1 := blk_frozen HE.out.2.2 1
        have f2 := blk_frozen HE.out.2.2 2
        have f3 := blk_frozen HE.out.2.2 3
        have f4 := blk_frozen HE.out.2.2 4
        have HP : Hid (OwnV (set5 wr (B + 1) (.int .i64 (runP s l).1.cap) (.slice a4 n4 c4) (.slice a5 n5 c5) (.slice a7 n7 c7) (.int .i64 (runP s l).1.next)) w1.heap.size (.agg #[.int .i64 (runP s l).1.cap, .slice a4 n4 c4, .slice a5 n5 c5, .slice a7 n7 c7, .int .i64 (runP s l).1.next]) (runP s l).1) := (ov3.put HE.out.2.2).2
        clear ov3 hb4
        go_wp2_with fail
        have b5 := set5_blk HE.out.2.2 (.int .i64 (runP s l).1.cap) (.slice a4 n4 c4) (.slice a5 n5 c5) (.slice a7 n7 c7) (.int .i64 (runP s l).1.next)
        refine bodyPost_ret (results_state2 rfl _ _ rfl rfl rfl b5) rfl ?_
        rw [HZ.out.1, HZ.out.2]
        refine ⟨_, rfl, HP.out.mono up1.out.size, ?_⟩
        exact HE.out.2.1.grown (set5_grown _ _ _ _ _ _ _) HE.out.2.1.size (fun j hj => by injection hj with hj; rw [← hj, HS.out.2.2]; omega)
end Go.Proofs.YtnchjlimkgbfpaaGreatDoor
