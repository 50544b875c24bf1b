/- The act that makes a file. -/
import Derived.Test.YtoceddpjkodfkaaQA
namespace Go.Proofs.Ytoceddpjkodfkaa
open Go.RowKit
set_option linter.unusedVariables false
set_option linter.unusedSimpArgs false

def createP (s : St) (name : List Int) : St × Int :=
  if mayOf name then
    if thereN s.names name then (s, 6) else if s.files.length = 256 ∨ s.next = 2147483647 then (s, 51) else
      ({ s with names := insN s.names (rankN s.names name) (name, s.next), files := s.files ++ [(s.next, [], 0)], next := s.next + 1 }, 0)
  else (s, 31)

theorem OpenS.setNext {w : World} {base B : Nat} {s : St} {af : Option Addr} {cf : Nat} {an : Option Addr} {cn : Nat} {as' : Option Addr} {cs' : Nat} {m : List FRow} (h : OpenS w base B s af cf an cn as' cs' m) (hbase : base ≤ w.heap.size) (k : Int) (hk : In64 k) :
    OwnS (w.setCell ⟨B, 4, none⟩ (.int .i64 k)) base B { s with next := k } ∧ Beside base B w (w.setCell ⟨B, 4, none⟩ (.int .i64 k)) := by
  obtain ⟨hB, hb, hm, of, on, os, hap, hi1, hi2⟩ := h
  have g5 := grown_set w ⟨B, 4, none⟩ (.int .i64 k)
  refine ⟨⟨hB, _, _, _, m, blk_set hb 4 _, hm, ?_, ?_, ?_, hap, hi1, hk⟩, ?_⟩
  · exact of.far g5 (own_blk_ne of.1.2 hb (by decide)) (fun y hy => own_blk_ne (of.2.1 y hy).1 hb (by decide))
  · exact on.far g5 (own_blk_ne on.2.2 hb (by decide))
  · exact os.far g5 (own_blk_ne os.2.2 hb (by decide))
  · exact (Beside.refl base B w).grown g5 hbase (fun j hj => by injection hj with hj; rw [← hj]; exact .inr rfl)

theorem OpenS.addFile {w w1 : World} {base B : Nat} {s : St} {af : Option Addr} {cf : Nat} {an : Option Addr} {cn : Nat} {as' : Option Addr} {cs' : Nat} {m : List FRow} (h : OpenS w base B s af cf an cn as' cs' m) (hbase : base ≤ w.heap.size) {v' : Value} (id : Int) (hid : In64 id)
    (hg : w.grownBy w1 (Value.ownBlock (.slice af m.length cf))) (ho : OwnR w1 base 71 3 v' (m.map frow ++ [[.int .i64 id, .slice none 0 0, .int .i64 0]])) :
    w1.heap[B]? = some (.cells #[.int .i64 s.cap, .slice af m.length cf, .slice an s.names.length cn, .slice as' s.safe.length cs', .int .i64 s.next] 33) ∧ OwnS (w1.setCell ⟨B, 1, none⟩ v') base B { s with files := s.files ++ [(id, [], 0)] } ∧ Beside base B w (w1.setCell ⟨B, 1, none⟩ v') := by
  obtain ⟨hB, hb, hm, of, on, os, hap, hi1, hi2⟩ := h
  have nB : some B ≠ Value.ownBlock (.slice af m.length cf) := by
    have := own_blk_ne of.1.2 hb (by decide)
    rcases this with q | q
    · rw [q]; simp
    · exact fun e => q e.symm
  have b1 := blk_grown hb hg nB
  have on1 := on.far hg (own_own_ne on.2.2 of.1.2 (by decide))
  have os1 := os.far hg (own_own_ne os.2.2 of.1.2 (by decide))
  have g5 := grown_set w1 ⟨B, 1, none⟩ v'
  have ho5 := ho.far g5 (own_blk_ne ho.2 b1 (by decide))
  refine ⟨b1, ⟨hB, _, _, _, m ++ [(.slice none 0 0, id, [], 0)], blk_set b1 1 v', ?_, ⟨?_, ?_, ?_⟩, ?_, ?_, hap, hi1, hi2⟩, ?_⟩
  · simp [hm]
  · rw [List.map_append]
    exact ho5
  · intro y hy
    rcases List.mem_append.1 hy with q | q
    · have h1 := of.2.1 y q
      have h2 := h1.1.far hg (own_own_ne h1.1 of.1.2 (by decide))
      exact ⟨h2.far g5 (own_blk_ne h2 b1 (by decide)), h1.2⟩
    · simp at q
      subst q
      exact ⟨OwnB.nil _ _, ⟨(fun x hx => by cases hx), by simp, hid, by show In64 0; unfold In64; omega⟩⟩
  · rw [List.pairwise_append]
    refine ⟨of.2.2, by simp, fun a ha b hb => ?_⟩
    simp at hb
    subst hb
    exact Apart.symm (.inl rfl)
  · exact on1.far g5 (own_blk_ne on1.2.2 b1 (by decide))
  · exact os1.far g5 (own_blk_ne os1.2.2 b1 (by decide))
  · refine ((Beside.refl base B w).grown hg hbase (fun k hk => .inl (of.1.2.lt k hk).1)).grown g5 (Nat.le_trans hbase hg.size) (fun k hk => ?_)
    injection hk with hk
    rw [← hk]
    exact .inr rfl

set_option maxHeartbeats 2000000 in
set_option maxRecDepth 4000 in
theorem create_any (s : St) (name : List Int) (hna : OctL name) (hnl : name.length ≤ 140737488355328) (base B : Nat) (w : World) (hS : OwnS w base B s) (hF : Fine s) (hnx : 1 ≤ s.next ∧ s.next ≤ 2147483647) (hbase : base ≤ w.heap.size) :
    Calls Try.prog 58 #[.pointer (some ⟨B, 0, none⟩), .string (strOfNums name)] w fun e w' => e = .returned (.int .i64 (createP s name).2) ∧ OwnS w' base B (createP s name).1 ∧ Beside base B w w' := by
  have HS0 : Hid (OwnS w base B s) := hS
  clear hS
  have hc1 := nameMay_any name hna hnl w
  obtain ⟨hnx0, hnx1⟩ := hnx
  cases hmay : mayOf name with
  | false =>
    have HR : Hid (createP s name = (s, 31)) := by unfold Hid createP; rw [hmay]; rfl
    rw [hmay] at hc1
    clear hmay
    go_enter Try.func58, Try.ntmps58
    go_wp2_with fail
    refine hc1.mono ?_
    rintro e w1 ⟨rfl, u1⟩
    have HU : Hid (Below w.heap.size w w1) := u1
    clear u1 hc1
    go_wp2_with fail
    go_ret
    rw [HR.out]
    exact ⟨rfl, HS0.out.up HU.out, Below_beside HU.out hbase⟩
  | true =>
    rw [hmay] at hc1
    have HM : Hid (mayOf name = true) := hmay
    clear hmay
    go_enter Try.func58, Try.ntmps58
    go_wp2_with fail
    refine hc1.mono ?_
    rintro e w1 ⟨rfl, u1⟩
    have HU : Hid (Beside base B w w1) := Below_beside u1 hbase
    have hb1 : base ≤ w1.heap.size := Nat.le_trans hbase u1.size
    have HS1 : Hid (OwnS w1 base B s) := HS0.out.up u1
    clear u1 hc1
    obtain ⟨af, cf, an, cn, as', cs', m, hO⟩ := HS1.out.open
    have HO : Hid (OpenS w1 base B s af cf an cn as' cs' m) := hO
    have q2 := blk_cell hO.2.1 2 _ rfl
    clear hO
    have hc2 := place_any s.names name hna _ w1 (NamesW.own HO.out.2.2.2.2.1) (by have := hF.2.1; omega) hF.2.2.2.1
    cases hth : thereN s.names name with
    | true =>
      have HR : Hid (createP s name = (s, 6)) := by unfold Hid createP; rw [HM.out, hth]; rfl
      rw [hth] at hc2
      clear hth
      go_wp2_with fail
      refine hc2.mono ?_
      rintro e w2 ⟨rfl, u2⟩
      have HU2 : Hid (Below w1.heap.size w1 w2) := u2
      clear u2 hc2 q2
      go_wp2_with fail
      go_ret
      rw [HR.out]
      exact ⟨rfl, HS1.out.up HU2.out, HU.out.trans (Below_beside HU2.out hb1)⟩
    | false =>
      rw [hth] at hc2
      have HT : Hid (thereN s.names name = false) := hth
      clear hth
      go_wp2_with fail
      refine hc2.mono ?_
      rintro e w2 ⟨rfl, u2⟩
      have HU2 : Hid (Beside base B w w2) := HU.out.trans (Below_beside u2 hb1)
      have hb2 : base ≤ w2.heap.size := Nat.le_trans hb1 u2.size
      have HO2 : Hid (OpenS w2 base B s af cf an cn as' cs' m) := HO.out.up u2
      clear u2 hc2 q2 HO HS1
      have q1 := blk_cell HO2.out.2.1 1 _ rfl
      have q2 := blk_cell HO2.out.2.1 2 _ rfl
      have q4 := blk_cell HO2.out.2.1 4 _ rfl
      have hml : m.length = s.files.length := by
        have := congrArg List.length HO2.out.2.2.1
        simpa using this
      by_cases c1 : s.files.length = 256
      · have HR : Hid (createP s name = (s, 51)) := by unfold Hid createP; rw [if_pos HM.out, if_neg (by rw [HT.out]; decide), if_pos (.inl c1)]
        have c1' : ((m.length : Int) == 256) = true := by rw [hml, c1]; rfl
        have c1a : m.length = 256 := by omega
        go_wp2_with fail
        go_ret
        rw [HR.out]
        exact ⟨rfl, HO2.out.shut, HU2.out⟩
      · have c1' : ((m.length : Int) == 256) = false := by rw [beq_eq_false_iff_ne]; omega
        by_cases c2 : s.next = 2147483647
        · have HR : Hid (createP s name = (s, 51)) := by unfold Hid createP; rw [if_pos HM.out, if_neg (by rw [HT.out]; decide), if_pos (.inr c2)]
          go_wp2_with fail
          go_ret
          rw [HR.out]
          exact ⟨rfl, HO2.out.shut, HU2.out⟩
        · have c2' : (s.next == 2147483647) = false := by rw [beq_eq_false_iff_ne]; exact c2
          have HR : Hid (createP s name = ({ s with names := insN s.names (rankN s.names name) (name, s.next), files := s.files ++ [(s.next, [], 0)], next := s.next + 1 }, 0)) := by
            unfold Hid createP
            rw [if_pos HM.out, if_neg (by rw [HT.out]; decide), if_neg (fun h => h.elim c1 c2)]
          have hrk := rankOf_le (fun p => lessL p.1 name) s.names
          have HRk : Hid (∃ r, r = rankN s.names name ∧ r ≤ s.names.length) := ⟨_, rfl, hrk⟩
          obtain ⟨r, hr, hrl⟩ := HRk.out
          rw [← hr] at HR ⊢
          clear hrk HRk hr
          have HC : Hid (∀ VB X, Below w2.heap.size w2 X → X.heap[VB]? = some (.cells #[.string (strOfNums name), .int .i64 s.next] 73) → w2.heap.size ≤ VB → Calls Try.prog 71 #[.slice an s.names.length cn, .int .i64 r, .slice (some ⟨VB, 0, none⟩) 1 1] X fun e w' => ∃ a4 c4, e = .returned (.slice a4 (s.names.length + 1) c4) ∧ w'.cell? ⟨B, 2, none⟩ = some (.slice an s.names.length cn) ∧ w'.frozen? ⟨B, 2, none⟩ = false ∧
              Hid (OwnS (w'.setCell ⟨B, 2, none⟩ (.slice a4 (s.names.length + 1) c4)) base B { s with names := insN s.names r (name, s.next) } ∧ Beside base B w (w'.setCell ⟨B, 2, none⟩ (.slice a4 (s.names.length + 1) c4)))) := by
            intro VB X hWx hblk hVB
            have oX := HO2.out.up hWx
            have hbX : base ≤ X.heap.size := Nat.le_trans hb2 hWx.size
            refine (insertN_any s.names _ r (name, s.next) VB base _ oX.2.2.2.2.1 ⟨hna, hnl, by unfold In64; omega⟩ hblk ?_ hF.2.1 hrl hbX).mono ?_
            · intro q
              have := (HO2.out.2.2.2.2.1.2.2.lt _ q).2
              omega
            · rintro e w' ⟨v', rfl, on', g', near'⟩
              obtain ⟨a4, c4, e4, _, _⟩ := (NamesW.own on').len
              rw [insN_len s.names r _ hrl] at e4
              subst e4
              have st := oX.setNames hbX g' near' on'
              exact ⟨a4, c4, rfl, blk_cell st.1 2 _ rfl, blk_frozen st.1 2, st.2.1, (HU2.out.trans (Below_beside hWx hb2)).trans st.2.2⟩
          have q2a : ∀ o, (w2.alloc o).cell? ⟨B, 2, none⟩ = some (.slice an s.names.length cn) := fun o => blk_cell (HO2.out.up (up_al (Below.refl _ _) o)).2.1 2 _ rfl
          go_upto_region 8 with fail
          go_cut [33] from 20 to 48 (fun s33 wx => Hid (OwnS wx base B { s with names := insN s.names r (name, s.next) } ∧ Beside base B w wx))
          case first =>
            go_region_with ((go_at_call 71; refine (HC.out _ _ (up_dr (up_al (Below.refl _ _) _)) (blk_new w2 _) (Nat.le_refl _)).mono ?_; rintro e w' ⟨a4, c4, rfl, z2, zf, hs⟩))
            all_goals
              go_wp2_with fail
              go_meet
              case rel => exact hs
          case rest =>
          have HS3 : Hid (OwnS wc base B { s with names := insN s.names r (name, s.next) } ∧ Beside base B w wc) := hcut
          clear q1 q2 q4 q2a hcut
          have hb3 : base ≤ wc.heap.size := Nat.le_trans hbase HS3.out.2.size
          obtain ⟨af3, cf3, an3, cn3, as3, cs3, m3, hO3⟩ := HS3.out.1.open
          have hm3 : m3.length = s.files.length := by
            have := congrArg List.length hO3.2.2.1
            simpa using this
          -- the new file's row
          obtain ⟨W, hW⟩ : ∃ W, W = (wc.alloc (.cells #[.int .i64 s.next, .slice none 0 0, .int .i64 0] 71)).drew := ⟨_, rfl⟩
          have uW : Below wc.heap.size wc W := by rw [hW]; exact up_dr (up_al (Below.refl _ _) _)
          have oW := hO3.up uW
          have bW : W.heap[wc.heap.size]? = some (.cells #[.int .i64 s.next, .slice none 0 0, .int .i64 0] 71) := by rw [hW]; exact blk_new wc _
          have hbW : base ≤ W.heap.size := Nat.le_trans hb3 uW.size
          obtain ⟨v', w4, hr4, ho4, hg4, hn4⟩ := run_append_near W 30 30 71 (.agg #[.int .i64 0, .slice none 0 0, .int .i64 0]) 3 40 Try.underlying30 Try.info71 rfl (by decide) base _ (m3.map frow) oW.2.2.2.1.1 ⟨wc.heap.size, 0, none⟩ 1 1 [[.int .i64 s.next, .slice none 0 0, .int .i64 0]] (by intro cs hcs; simp at hcs; subst hcs; rfl) rfl (by
              intro j u hj
              rw [Addr.add_lit, Nat.zero_add]
              exact blk_cell bW j u (by simpa using hj)) (by
              intro cs hcs u hu
              simp at hcs
              subst hcs
              simp at hu
              rcases hu with rfl | rfl | rfl <;> rfl) (by rw [List.length_map]; have := hF.1; omega) (by rw [List.length_map]; unfold maxLen; have := hF.1; omega) hbW
          have st4 := oW.addFile hbW s.next (by unfold In64; omega) hg4 ho4
          obtain ⟨a4, c4, e4, _, _⟩ := (Rws.own ho4).len
          rw [List.length_append, List.length_map] at e4
          simp only [List.length_cons, List.length_nil, Nat.zero_add] at e4
          subst e4
          have HS4 : Hid (OwnS (w4.setCell ⟨B, 1, none⟩ (.slice a4 (m3.length + 1) c4)) base B { s with names := insN s.names r (name, s.next), files := s.files ++ [(s.next, [], 0)] } ∧ Beside base B w (w4.setCell ⟨B, 1, none⟩ (.slice a4 (m3.length + 1) c4))) := ⟨st4.2.1, (HS3.out.2.trans (Below_beside uW hb3)).trans st4.2.2⟩
          have q1 := blk_cell hO3.2.1 1 _ rfl
          have q4 := blk_cell hO3.2.1 4 _ rfl
          have q1a : ∀ o, (wc.alloc o).cell? ⟨B, 1, none⟩ = some (.slice af3 m3.length cf3) := fun o => blk_cell (hO3.up (up_al (Below.refl _ _) o)).2.1 1 _ rfl
          have z1 := blk_cell st4.1 1 _ rfl
          have zf := blk_frozen st4.1 1
          rw [hW] at hr4
          simp only at q1 q4 z1
          clear hO3 oW bW hbW ho4 hg4 hn4 st4 uW hW hm3
          go_upto_region 9 with fail
          go_cut [49] from 20 to 62 (fun s49 wx => Hid (OwnS wx base B { s with names := insN s.names r (name, s.next), files := s.files ++ [(s.next, [], 0)] } ∧ Beside base B w wx))
          case first =>
            go_region_law (refine step_known rfl (exec_append (d := .tmp 53) (s := .tmp 59) (t := 30) (t' := 30) rfl (by simp [Act.eval, Act.put]) (by simp [Act.eval, Act.put]) hr4) ?_)
            all_goals
              go_wp2_with fail
              go_meet
              case rel => exact HS4
          case rest =>
          have HS5 : Hid (OwnS wc base B { s with names := insN s.names r (name, s.next), files := s.files ++ [(s.next, [], 0)] } ∧ Beside base B w wc) := hcut
          clear q1 q4 q1a z1 zf hr4 hcut
          have hb5 : base ≤ wc.heap.size := Nat.le_trans hbase HS5.out.2.size
          obtain ⟨af5, cf5, an5, cn5, as5, cs5, m5, hO5⟩ := HS5.out.1.open
          have q4 := blk_cell hO5.2.1 4 _ rfl
          have f4 := blk_frozen hO5.2.1 4
          have st5 := hO5.setNext hb5 (s.next + 1) (by unfold In64; omega)
          have HS6 : Hid (OwnS (wc.setCell ⟨B, 4, none⟩ (.int .i64 (s.next + 1))) base B { s with names := insN s.names r (name, s.next), files := s.files ++ [(s.next, [], 0)], next := s.next + 1 } ∧ Beside base B w (wc.setCell ⟨B, 4, none⟩ (.int .i64 (s.next + 1)))) := ⟨st5.1, HS5.out.2.trans st5.2⟩
          simp only at q4
          clear hO5 st5
          go_wp2_with fail
          go_ret
          rw [HR.out]
          exact ⟨rfl, HS6.out⟩
end Go.Proofs.Ytoceddpjkodfkaa
