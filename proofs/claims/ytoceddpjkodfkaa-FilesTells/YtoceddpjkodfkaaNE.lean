/- The law FilesTells holds: for every state, act, slice of numbers and text the Go function returns true, and what was handed in reads as before; no conditions. -/
import Derived.Test.YtoceddpjkodfkaaNC
import Derived.Test.YtoceddpjkodfkaaRows
import Derived.Test.YtoceddpjkodfkaaV1
import Derived.WalkKit
import Derived.ProofKit
import Derived.OpenShut
import Derived.ShutString
import Derived.ChangeOld
import Derived.Below
import Derived.SizedLaws

/- The document's List and Read. -/
namespace Go.Proofs.Ytoceddpjkodfkaa
open Go.RowKit
set_option linter.unusedVariables false
set_option linter.unusedSimpArgs false

set_option maxHeartbeats 4000000 in
set_option maxRecDepth 4000 in
theorem refList_any (s : St) (v : Value) (w : World) (hv : StW w v s) :
    Calls Try.prog 18 #[v] w fun e w' => ∃ v', e = .returned (.tuple #[v', .int .i64 (listP s).2]) ∧ OwnR w' w.heap.size 9 1 v' ((listP s).1.map srow) ∧ Below w.heap.size w w' := by
  obtain ⟨af, cf, an, cn, as', cs', rfl⟩ := hv.form
  have HV : Hid (StW w (.agg #[.int .i64 s.cap, .slice af s.files.length cf, .slice an s.names.length cn, .slice as' s.safe.length cs', .int .i64 s.next]) s) := hv
  obtain ⟨N, hN⟩ : ∃ N, N = w.heap.size := ⟨_, rfl⟩
  obtain ⟨wx, hwx⟩ : ∃ wx, wx = w.alloc (.cells #[.int .i64 s.cap, .slice af s.files.length cf, .slice an s.names.length cn, .slice as' s.safe.length cs', .int .i64 s.next] 25) := ⟨_, rfl⟩
  have HWx : Hid (w.alloc (.cells #[.int .i64 s.cap, .slice af s.files.length cf, .slice an s.names.length cn, .slice as' s.safe.length cs', .int .i64 s.next] 25) = wx) := hwx.symm
  have b0 : wx.heap[N]? = some (.cells #[.int .i64 s.cap, .slice af s.files.length cf, .slice an s.names.length cn, .slice as' s.safe.length cs', .int .i64 s.next] 25) := by rw [hwx, hN]; exact blk_new w _
  have UX : Hid (Below w.heap.size w wx) := by rw [hwx]; exact up_alloc _ _
  clear hv hwx
  go_enter Try.func18, Try.ntmps18
  go_wp2_with fail
  rw [HWx.out, ← hN]
  clear HWx hN
  refine (refCheck_any s _ wx (HV.out.up UX.out)).mono ?_
  rintro e w1 ⟨rfl, u⟩
  have U1 : Hid (Below w.heap.size w w1) := up_trans UX.out u
  have B0 := blk_up b0 u
  clear b0 u UX
  cases hc : checkP s
  · have HR : Hid (listP s = ([], 9)) := by unfold Hid listP; rw [hc]; rfl
    have e9 : errOf false = 9 := rfl
    rw [e9]
    clear e9 hc
    go_wp2_with fail
    go_ret2
    rw [HR.out]
    exact ⟨_, rfl, OwnR.nil _ _ _ _, U1.out⟩
  · have HG : Hid (Good s) := check_good hc
    have HR : Hid (listP s = (s.names.map (·.1), 0)) := list_good HG.out
    have e0 : errOf true = 0 := rfl
    rw [e0]
    clear e0 hc
    have hfew := HG.out.few
    have hnl := few_names HG.out.names
    have HNm : Hid (NamesW w1 (.slice an s.names.length cn) s.names) := by
      obtain ⟨vf, vn, vs, ev, hf, hn, hs, _, _⟩ := HV.out.up U1.out
      simp at ev
      obtain ⟨rfl, rfl, rfl⟩ := ev
      exact hn
    have q2 := blk_cell B0 2 _ rfl
    go_wp2_with fail
    go_loopw [4, 5] (fun vb i wr => ∃ k : Nat, k ≤ s.names.length ∧ i = .int .i64 k ∧ Hid (OwnR wr w1.heap.size 9 1 vb (((s.names.take k).map (·.1)).map srow)) ∧ Hid (Below w1.heap.size w1 wr)) (fun _ i _ => s.names.length - (intOf i).toNat)
    case atStart => exact ⟨0, Nat.zero_le _, rfl, OwnR.nil _ _ _ _, Below.refl _ _⟩
    case round =>
      obtain ⟨k, hk, rfl, HO, up⟩ := hrel
      have r2 := (up.out.cell (World.block_lt_of_cell? _ _ q2)).trans q2
      by_cases hlt : k < s.names.length
      · have hlt' : (k : Int) < (s.names.length : Int) := by omega
        obtain ⟨b, off, cap', e, _, _, c0, c1, ho, hln, hi'⟩ := (HNm.out.up up.out).at k hlt
        simp at e
        obtain ⟨rfl, rfl⟩ := e
        have HT : Hid (s.names.take (k + 1) = s.names.take k ++ [s.names.getD k ([], 0)]) := take_snoc s.names k _ hlt
        have HKl : Hid ((((s.names.take k).map (·.1)).map srow).length = k) := by simp [Hid]; omega
        generalize s.names.getD k ([], 0) = y at *
        obtain ⟨ys, yi⟩ := y
        simp only at c0 c1 HT
        have hsz2 := up.out.size
        obtain ⟨vl, cl, ev5, _, _⟩ := (Rws.own HO.out).len
        subst ev5
        rw [HKl.out] at HO ⊢
        go_wp2_with (at_builtin; refine wpList_append_row wr rfl (.tmp 16) (.tmp 23) 47 9 (.string ⟨#[]⟩) 1 16 rfl Try.underlying47 Try.info9 rfl (by decide) w1.heap.size (.slice vl k cl) _ rfl HO.out (srow ys) _ wr.heap.size rfl rfl rfl rfl ?n2 ?n3 ?n4 hsz2 ?_)
        try case n2 => (intro u hu; simp [srow] at hu; subst hu; rfl)
        try case n3 => ((try rw [HKl.out]); omega)
        try case n4 => ((try rw [HKl.out]); unfold maxLen; omega)
        intro v6 w6 o6 b6
        have HO6 : Hid (OwnR w6 w1.heap.size 9 1 v6 (((s.names.take (k + 1)).map (·.1)).map srow)) := by
          unfold Hid
          rw [HT.out, List.map_append, List.map_append]
          simpa using o6
        have HU6 : Hid (Below w1.heap.size w1 w6) := up.out.trans b6
        clear o6 b6
        go_wp2_with fail
        exact ⟨⟨k + 1, by omega, by go_num, HO6, HU6⟩, by simp [intOf]; omega⟩
      · have hlt' : ¬ (k : Int) < (s.names.length : Int) := by omega
        obtain rfl : k = s.names.length := by omega
        rw [List.take_length] at HO
        have HO6 := HO
        go_wp2_with fail
        go_ret2
        rw [HR.out]
        exact ⟨_, rfl, HO6.out.mono U1.out.size, up_trans U1.out up.out⟩

set_option maxHeartbeats 8000000 in
set_option maxRecDepth 4000 in
theorem refRead_any (s : St) (name : List Int) (hna : OctL name) (v : Value) (w : World) (hv : StW w v s) :
    Calls Try.prog 16 #[v, .string (strOfNums name)] w fun e w' => ∃ v', e = .returned (.tuple #[v', .int .i64 (readP s name).2]) ∧ OwnB w' w.heap.size v' (readP s name).1 ∧ OctL (readP s name).1 ∧ Below w.heap.size w w' := by
  obtain ⟨af, cf, an, cn, as', cs', rfl⟩ := hv.form
  have HV : Hid (StW w (.agg #[.int .i64 s.cap, .slice af s.files.length cf, .slice an s.names.length cn, .slice as' s.safe.length cs', .int .i64 s.next]) s) := hv
  obtain ⟨N, hN⟩ : ∃ N, N = w.heap.size := ⟨_, rfl⟩
  obtain ⟨wx, hwx⟩ : ∃ wx, wx = w.alloc (.cells #[.int .i64 s.cap, .slice af s.files.length cf, .slice an s.names.length cn, .slice as' s.safe.length cs', .int .i64 s.next] 25) := ⟨_, rfl⟩
  have HWx : Hid (w.alloc (.cells #[.int .i64 s.cap, .slice af s.files.length cf, .slice an s.names.length cn, .slice as' s.safe.length cs', .int .i64 s.next] 25) = wx) := hwx.symm
  have b0 : wx.heap[N]? = some (.cells #[.int .i64 s.cap, .slice af s.files.length cf, .slice an s.names.length cn, .slice as' s.safe.length cs', .int .i64 s.next] 25) := by rw [hwx, hN]; exact blk_new w _
  have UX : Hid (Below w.heap.size w wx) := by rw [hwx]; exact up_alloc _ _
  clear hv hwx
  go_enter Try.func16, Try.ntmps16
  go_wp2_with fail
  rw [HWx.out, ← hN]
  clear HWx hN
  refine (refCheck_any s _ wx (HV.out.up UX.out)).mono ?_
  rintro e w1 ⟨rfl, u⟩
  have U1 : Hid (Below w.heap.size w w1) := up_trans UX.out u
  have B0 := blk_up b0 u
  clear b0 u UX
  cases hc : checkP s
  · have HR : Hid (readP s name = ([], 9)) := by unfold Hid readP; rw [hc]; rfl
    have e9 : errOf false = 9 := rfl
    rw [e9]
    clear e9 hc
    go_wp2_with fail
    go_ret2
    rw [HR.out]
    exact ⟨_, rfl, OwnB.nil _ _, (fun x hx => by cases hx), U1.out⟩
  · have HG : Hid (Good s) := check_good hc
    have e0 : errOf true = 0 := rfl
    rw [e0]
    have HC : Hid (checkP s = true) := hc
    clear e0 hc
    have HSt : Hid (FilesW w1 (.slice af s.files.length cf) s.files ∧ NamesW w1 (.slice an s.names.length cn) s.names) := by
      obtain ⟨vf, vn, vs, ev, hf, hn, hs, _, _⟩ := HV.out.up U1.out
      simp at ev
      obtain ⟨rfl, rfl, rfl⟩ := ev
      exact ⟨hf, hn⟩
    obtain ⟨q0, q1, q2, q3, q4⟩ := box_cells B0
    go_wp2_with fail
    refine (refFind_any s.names name hna _ w1 HSt.out.2).mono ?_
    rintro e w4 ⟨rfl, hw4⟩
    have hw4' : w1 = w4 := hw4.symm
    clear hw4
    subst hw4'
    cases hth : thereN s.names name
    · have hf := find_not HG.out.names.rise hth
      have HR : Hid (readP s name = ([], 71)) := by
        unfold Hid readP
        have hh : hasF s name = false := by unfold hasF; rw [hth]; rfl
        rw [HC.out, hh]
        rfl
      generalize findOf s.names name = fd at *
      clear hth
      go_wp2_with fail
      go_ret2
      rw [HR.out]
      exact ⟨_, rfl, OwnB.nil _ _, (fun x hx => by cases hx), U1.out⟩
    · obtain ⟨hi, e⟩ := there_at hth
      have hf := find_there hth
      obtain ⟨k, hk, ek, _, _⟩ := named HG.out hi
      have hrd := read_at HG.out hi hk ek
      rw [e] at hrd
      have HR : Hid (readP s name = ((s.files[k]).2.1, 0)) := hrd
      have hfk := file_rank HG.out hi
      have hrk : rankF s.files (s.names[rankN s.names name]).2 = k := by
        rw [← ek]
        exact rankF_at HG.out.rise hk
      rw [hrk] at hfk
      rw [hf]
      generalize rankN s.names name = i at *
      clear hf hth hrd hrk
      obtain ⟨b, off, cap', e8, _, _, c0, c1, _⟩ := HSt.out.2.at i hi
      simp at e8
      obtain ⟨rfl, rfl⟩ := e8
      have eid : (s.names.getD i ([], 0)).2 = (s.names[i]).2 := by simp [List.getD, hi]
      rw [eid] at c1
      obtain ⟨g, o2, cap2, u2, e9, _, _, d0, d1, d2, ho, hdl, _⟩ := HSt.out.1.at k hk
      simp at e9
      obtain ⟨rfl, rfl⟩ := e9
      have efl : s.files.getD k (0, [], 0) = s.files[k] := by simp [List.getD, hk]
      rw [efl] at ho hdl
      obtain ⟨ad, cd, rfl, _⟩ := ho.slice
      obtain ⟨dd, hdd⟩ : ∃ dd, dd = (s.files[k]).2.1 := ⟨_, rfl⟩
      rw [← hdd] at ho hdl d1 HR
      have HO : Hid (Octs w1 (.slice ad dd.length cd) dd ∧ dd.length ≤ 140737488355328) := ⟨ho, hdl⟩
      obtain ⟨id, hid⟩ : ∃ id, id = (s.names[i]).2 := ⟨_, rfl⟩
      rw [← hid] at c1 hfk
      have HFk : Hid (fileOf s.files id = (k : Int)) := hfk
      have hii : (i : Int) < (s.names.length : Int) := by omega
      have hkk : (k : Int) < (s.files.length : Int) := by omega
      have hi0 : ¬ (i : Int) < 0 := by omega
      obtain ⟨dn, hdn⟩ : ∃ dn, dn = dd.length := ⟨_, rfl⟩
      have HDn : Hid (dn = dd.length) := hdn
      rw [← hdn] at d1
      clear ho hdl hdd hid hfk eid efl e ek d0 d2 c0 hdn
      have l0 := World.block_lt_of_cell? _ _ q0
      have l1 := World.block_lt_of_cell? _ _ c1
      have l2 := World.block_lt_of_cell? _ _ d1
      simp only at l0 l1 l2
      have HK : Hid (∀ X, Below w1.heap.size w1 X → X.cell? ⟨N, 0, none⟩ = some (.int .i64 s.cap) ∧ X.cell? ⟨N, 1, none⟩ = some (.slice (some ⟨g, o2, none⟩) s.files.length cf) ∧ X.cell? ⟨N, 2, none⟩ = some (.slice (some ⟨b, off, none⟩) s.names.length cn) ∧ X.cell? ⟨N, 3, none⟩ = some (.slice as' s.safe.length cs') ∧ X.cell? ⟨N, 4, none⟩ = some (.int .i64 s.next) ∧ X.cell? ⟨b, off + i * 2 + 1, none⟩ = some (.int .i64 id) ∧ X.cell? ⟨g, o2 + k * 3 + 1, none⟩ = some (.slice ad dn cd)) := by
        intro X hX
        exact ⟨(hX.cell l0).trans q0, (hX.cell l0).trans q1, (hX.cell l0).trans q2, (hX.cell l0).trans q3, (hX.cell l0).trans q4, (hX.cell l1).trans c1, (hX.cell l2).trans d1⟩
      have UD : Hid (Below w1.heap.size w1 w1.drew) := up_dr (Below.refl _ _)
      have HC1 : Hid (∀ X, Below w1.heap.size w1 X → Calls Try.prog 40 #[.agg #[.int .i64 s.cap, .slice (some ⟨g, o2, none⟩) s.files.length cf, .slice (some ⟨b, off, none⟩) s.names.length cn, .slice as' s.safe.length cs', .int .i64 s.next], .int .i64 id] X fun e w' => e = .returned (.int .i64 (k : Int)) ∧ Hid (Below w1.heap.size w1 w')) := by
        intro X hX
        rw [← HFk.out]
        refine (refFile_any s.files id _ _ _ _ _ X (HSt.out.1.up hX)).mono ?_
        rintro e w' ⟨rfl, rfl⟩
        exact ⟨rfl, up_al hX _⟩
      have HC2 : Hid (∀ X, Below w1.heap.size w1 X → Calls Try.prog 48 #[.slice ad dn cd] X fun e w' => ∃ a5 c5, e = .returned (.slice a5 dn c5) ∧ Hid (OwnB w' w1.heap.size (.slice a5 dn c5) dd ∧ Below w1.heap.size w1 w')) := by
        intro X hX
        have hoX := HO.out.1.up hX
        rw [← HDn.out] at hoX
        refine (refCopied_any dd _ X hoX HO.out.2).mono ?_
        rintro e w' ⟨v', rfl, ob, u⟩
        obtain ⟨a5, c5, ev, _⟩ := (Octs.own ob HO.out.1.1).slice
        rw [← HDn.out] at ev
        subst ev
        exact ⟨a5, c5, rfl, ob.mono hX.size, up_trans hX u⟩
      go_upto_region 6 with fail
      go_region_held3 (fun X => X.cell? ⟨N, 0, none⟩ = some (.int .i64 s.cap) ∧ X.cell? ⟨N, 1, none⟩ = some (.slice (some ⟨g, o2, none⟩) s.files.length cf) ∧ X.cell? ⟨N, 2, none⟩ = some (.slice (some ⟨b, off, none⟩) s.names.length cn) ∧ X.cell? ⟨N, 3, none⟩ = some (.slice as' s.safe.length cs') ∧ X.cell? ⟨N, 4, none⟩ = some (.int .i64 s.next) ∧ X.cell? ⟨b, off + i * 2 + 1, none⟩ = some (.int .i64 id) ∧ X.cell? ⟨g, o2 + k * 3 + 1, none⟩ = some (.slice ad dn cd)) (first | with_reducible exact HK.out _ UD.out | with_reducible exact HK.out _ h5.out | with_reducible exact HK.out _ h6.out.2) (first | (go_at_call 40; with_reducible refine (HC1.out _ UD.out).mono ?_; rintro e w5 ⟨rfl, h5⟩) | (go_at_call 48; with_reducible refine (HC2.out _ h5.out).mono ?_; rintro e w6 ⟨a5, c5, rfl, h6⟩))
      all_goals
        go_wp2_with fail
        go_ret2
        rw [HR.out]
        exact ⟨_, rfl, h6.out.1.mono U1.out.size, HO.out.1.1, up_trans U1.out h6.out.2⟩
end Go.Proofs.Ytoceddpjkodfkaa

/- The document's Crash. -/
namespace Go.Proofs.Ytoceddpjkodfkaa
open Go.RowKit
set_option linter.unusedVariables false
set_option linter.unusedSimpArgs false

/-- A file's row cut: its octets and how many are synced. -/
theorem OwnG.cut {w : World} {base g n c : Nat} {m : List FRow} {i : Nat} (h : OwnG w base (.slice (some ⟨g, 0, none⟩) n c) m) (hn : m.length = n) (hi : i < n) {au : Option Addr} {cu : Nat} (eu : (m.getD i noF).1 = .slice au (m.getD i noF).2.2.1.length cu) {lf : Nat} (hl : lf ≤ (m.getD i noF).2.2.1.length) :
    OwnG ((w.setCell ⟨g, i * 3 + 1, none⟩ (.slice au lf cu)).setCell ⟨g, i * 3 + 2, none⟩ (.int .i64 (lf : Int))) base (.slice (some ⟨g, 0, none⟩) n c) (m.set i (.slice au lf cu, (m.getD i noF).2.1, (m.getD i noF).2.2.1.take lf, (lf : Int))) ∧ w.grownBy ((w.setCell ⟨g, i * 3 + 1, none⟩ (.slice au lf cu)).setCell ⟨g, i * 3 + 2, none⟩ (.int .i64 (lf : Int))) (some g) := by
  have him : i < m.length := by omega
  have hmem : m.getD i noF ∈ m := by simp [List.getD, him]
  obtain ⟨ho, hok⟩ := h.2.1 _ hmem
  refine ⟨?_, grown_trans (grown_set w ⟨g, i * 3 + 1, none⟩ _) (grown_set _ ⟨g, i * 3 + 2, none⟩ _)⟩
  rw [eu] at ho
  have hdl := hok.2.1
  have hs := h.data hn i hi (ho.take lf hl) (grown_refl _ _) ?_ ⟨fun x hx => hok.1 x (List.mem_of_mem_take hx), by rw [List.length_take]; omega⟩
  · have hs2 := hs.sync (by simpa using hn) i hi (lf : Int) (by unfold In64; omega)
    have e1 : (m.set i (.slice au lf cu, (m.getD i noF).2.1, (m.getD i noF).2.2.1.take lf, (m.getD i noF).2.2.2)).getD i noF = (.slice au lf cu, (m.getD i noF).2.1, (m.getD i noF).2.2.1.take lf, (m.getD i noF).2.2.2) := by simp [List.getD, him]
    rw [e1] at hs2
    simp only [List.set_set] at hs2
    exact hs2
  · refine .inl ?_
    rw [eu]
    cases au <;> rfl

set_option maxHeartbeats 8000000 in
set_option maxRecDepth 4000 in
theorem refCrash_any (s : St) (keep : List Int) (v vk : Value) (w : World) (hv : StW w v s) (hk : IntsW w vk keep) :
    Calls Try.prog 14 #[v, vk] w fun e w' => ∃ v', e = .returned (.tuple #[v', .int .i64 (crashP s keep).2]) ∧ OwnU w' w.heap.size v' (crashP s keep).1 ∧ Below w.heap.size w w' := by
  obtain ⟨af, cf, an, cn, as', cs', rfl⟩ := hv.form
  obtain ⟨ak, ck, rfl, hck, hmk⟩ := hk.len
  have HV : Hid (StW w (.agg #[.int .i64 s.cap, .slice af s.files.length cf, .slice an s.names.length cn, .slice as' s.safe.length cs', .int .i64 s.next]) s) := hv
  have HK : Hid (IntsW w (.slice ak keep.length ck) keep) := hk
  obtain ⟨N, hN⟩ : ∃ N, N = w.heap.size := ⟨_, rfl⟩
  obtain ⟨wx, hwx⟩ : ∃ wx, wx = (w.alloc (.cells #[.int .i64 s.cap, .slice af s.files.length cf, .slice an s.names.length cn, .slice as' s.safe.length cs', .int .i64 s.next] 25)).alloc (.cells #[.int .i64 0, .slice none 0 0, .slice none 0 0, .slice none 0 0, .int .i64 0] 25) := ⟨_, rfl⟩
  have HWx : Hid ((w.alloc (.cells #[.int .i64 s.cap, .slice af s.files.length cf, .slice an s.names.length cn, .slice as' s.safe.length cs', .int .i64 s.next] 25)).alloc (.cells #[.int .i64 0, .slice none 0 0, .slice none 0 0, .slice none 0 0, .int .i64 0] 25) = wx) := hwx.symm
  have b0 : wx.heap[N]? = some (.cells #[.int .i64 s.cap, .slice af s.files.length cf, .slice an s.names.length cn, .slice as' s.safe.length cs', .int .i64 s.next] 25) := by rw [hwx, hN]; exact blk_two0 w _ _
  have b2 : wx.heap[N + 1]? = some (.cells #[.int .i64 0, .slice none 0 0, .slice none 0 0, .slice none 0 0, .int .i64 0] 25) := by rw [hwx, hN]; exact blk_two1 w _ _
  have UX : Hid (Below w.heap.size w wx) := by rw [hwx]; exact up_al (up_al (Below.refl _ _) _) _
  have HN : Hid (N = w.heap.size) := hN
  clear hv hk hwx hmk hck
  go_enter Try.func14, Try.ntmps14
  go_wp2_with fail
  rw [HWx.out, ← hN]
  clear HWx hN
  refine (refCheck_any s _ wx (HV.out.up UX.out)).mono ?_
  rintro e w1 ⟨rfl, u⟩
  have U1 : Hid (Below w.heap.size w w1) := up_trans UX.out u
  have B0 := blk_up b0 u
  have B2 := blk_up b2 u
  clear b0 b2 u UX
  cases hc : checkP s
  · have HR : Hid (crashP s keep = (z0, 9)) := by unfold Hid crashP; rw [hc]; rfl
    have e9 : errOf false = 9 := rfl
    rw [e9]
    clear e9 hc
    obtain ⟨x0, x1, x2, x3, x4⟩ := box_cells B2
    have f0 := blk_frozen B2 0
    have f1 := blk_frozen B2 1
    have f2 := blk_frozen B2 2
    have f3 := blk_frozen B2 3
    have f4 := blk_frozen B2 4
    have b5 := set5_blk B2 (.int .i64 0) (.slice none 0 0) (.slice none 0 0) (.slice none 0 0) (.int .i64 0)
    clear B2
    go_wp2_with fail
    refine bodyPost_ret (results_docs1 rfl _ _ rfl rfl b5) rfl ?_
    rw [HR.out]
    exact ⟨_, rfl, OwnU.zero _ _ 0 0 in64_0 in64_0, U1.out.grown (set5_grown _ _ _ _ _ _ _) U1.out.size (fun j hj => by injection hj with hj; rw [← hj, HN.out]; omega)⟩
  · have HG : Hid (Good s) := check_good hc
    have HR : Hid (crashP s keep = (sweptOf { s with files := cutTo keep s.files s.files.length, names := s.safe }, 0)) := by unfold Hid crashP; rw [hc]; rfl
    have e0 : errOf true = 0 := rfl
    rw [e0]
    clear e0 hc
    obtain ⟨q0, q1, q2, q3, q4⟩ := box_cells B0
    have hfew := HG.out.few
    have hn1 := few_names HG.out.names
    have hn2 := few_names HG.out.safe
    go_wp2_with fail
    refine (refOwn_any s _ w1 (HV.out.up U1.out) hfew (by omega) (by omega)).mono ?_
    rintro e w2 ⟨v2, rfl, ou, u⟩
    obtain ⟨a2f, c2f, a2n, c2n, a2s, c2s, rfl⟩ := (StW.ownU ou).form
    have OT : Hid (OwnT (w2.alloc (.cells #[.int .i64 s.cap, .slice a2f s.files.length c2f, .slice a2n s.names.length c2n, .slice a2s s.safe.length c2s, .int .i64 s.next] 25)) w1.heap.size w2.heap.size s) := ou.laid
    have U3 : Hid (Below w1.heap.size w1 (w2.alloc (.cells #[.int .i64 s.cap, .slice a2f s.files.length c2f, .slice a2n s.names.length c2n, .slice a2s s.safe.length c2s, .int .i64 s.next] 25))) := up_al u _
    have hTw : w1.heap.size ≤ w2.heap.size := u.size
    have B2' := blk_up B2 U3.out
    have HB1 : Hid (N + 2 ≤ w1.heap.size) := by have := blk_lt B2; unfold Hid; omega
    clear ou u B2 B0 q0 q1 q2 q3 q4
    go_wp2_with fail
    generalize w2.alloc (.cells #[.int .i64 s.cap, .slice a2f s.files.length c2f, .slice a2n s.names.length c2n, .slice a2s s.safe.length c2s, .int .i64 s.next] 25) = w3 at *
    obtain ⟨T, hT⟩ : ∃ T, T = w2.heap.size := ⟨_, rfl⟩
    rw [← hT] at OT hTw ⊢
    have HTb : Hid (w1.heap.size ≤ T) := hTw
    clear hT hTw
    have U03 : Hid (Below w.heap.size w w3) := up_trans U1.out U3.out
    have HR3 : Hid (w3.heap[N + 1]? = some (.cells #[.int .i64 0, .slice none 0 0, .slice none 0 0, .slice none 0 0, .int .i64 0] 25)) := B2'
    have hb3 : w1.heap.size ≤ w3.heap.size := U3.out.size
    clear B2'
    have HO0 : Hid (OwnT w3 w1.heap.size T { s with files := cutTo keep s.files 0 }) := by rw [cutTo_zero]; exact OT.out
    go_loopw [7] (fun i wr => ∃ k : Nat, k ≤ s.files.length ∧ i = .int .i64 k ∧ Hid (OwnT wr w1.heap.size T { s with files := cutTo keep s.files k }) ∧ Hid (Beside w1.heap.size T w3 wr)) (fun i _ => s.files.length - (intOf i).toNat)
    case atStart => exact ⟨0, Nat.zero_le _, rfl, HO0, Beside.refl _ _ _⟩
    case round =>
      obtain ⟨k, hk, rfl, HO, be⟩ := hrel
      have UR : Hid (Below w.heap.size w wr) := U03.out.trans ((be.out.below HTb.out).mono U1.out.size)
      have hbr : w1.heap.size ≤ wr.heap.size := Nat.le_trans hb3 be.out.size
      have bR : Hid (wr.heap[N + 1]? = some (.cells #[.int .i64 0, .slice none 0 0, .slice none 0 0, .slice none 0 0, .int .i64 0] 25)) := be.out.low HTb.out (by have := HB1.out; omega) HR3.out
      obtain ⟨af3, cf3, an3, cn3, as3, cs3, m, hO⟩ := HO.out.open
      have HML : Hid (m.length = s.files.length) := by
        have := congrArg List.length hO.2.2.1
        simpa [Hid, cutTo_len] using this
      have q1 := blk_cell hO.2.1 1 _ rfl
      by_cases hlt : k < s.files.length
      · have hlt' : (k : Int) < (m.length : Int) := by have := HML.out; omega
        obtain ⟨him, ⟨g, rfl⟩, e2, au, cu, eu⟩ := hO.rowAt k (by show k < (cutTo keep s.files k).length; rw [cutTo_len]; exact hlt)
        have ef : fileD { s with files := cutTo keep s.files k } k = fileD s k := by
          show (cutTo keep s.files k).getD k (0, [], 0) = _
          rw [cutTo_at keep s.files k k hlt, if_neg (by omega)]
          rfl
        rw [ef] at e2 eu
        obtain ⟨k0, k1, k2, fz⟩ := hO.cells3 k him
        have HOp : Hid (OpenT wr w1.heap.size T { s with files := cutTo keep s.files k } (some ⟨g, 0, none⟩) cf3 an3 cn3 as3 cs3 m) := hO
        have hsy := HG.out.sync (fileD s k) (by
          have : fileD s k = s.files[k] := by simp [fileD, List.getD, hlt]
          rw [this]
          exact List.getElem_mem hlt)
        have hll := left_le (fileD s k) (keep.getD k 0) hsy.1 hsy.2
        obtain ⟨lf, hlf⟩ : ∃ lf : Nat, leftN (fileD s k) (keep.getD k 0) = (lf : Int) := ⟨(leftN (fileD s k) (keep.getD k 0)).toNat, by omega⟩
        have hlv : (fileD s k).2.2 + min (max (keep.getD k 0) 0) (((fileD s k).2.1.length : Int) - (fileD s k).2.2) = (lf : Int) := hlf
        have HS0 : Hid (∀ X, Below wr.heap.size wr X → OwnT (((X.setCell ⟨g, k * 3 + 1, none⟩ (.slice au lf cu)).setCell ⟨g, k * 3 + 2, none⟩ (.int .i64 (lf : Int)))) w1.heap.size T { s with files := cutTo keep s.files (k + 1) } ∧ Beside w1.heap.size T w3 (((X.setCell ⟨g, k * 3 + 1, none⟩ (.slice au lf cu)).setCell ⟨g, k * 3 + 2, none⟩ (.int .i64 (lf : Int))))) := by
          intro X hX
          have hOX := hO.up hX
          have hbX : w1.heap.size ≤ X.heap.size := Nat.le_trans hbr hX.size
          have hcut := hOX.2.2.2.1.cut rfl him (lf := lf) (by rw [e2]; exact eu) (by rw [e2]; omega)
          have hst := hOX.setFiles (by rw [List.length_set]) hcut.2 hcut.1 hbX
          have ecut : (m.set k (.slice au lf cu, (m.getD k noF).2.1, (m.getD k noF).2.2.1.take lf, (lf : Int))).map (·.2) = cutTo keep s.files (k + 1) := by
            rw [List.map_set, hO.2.2.1, ← cutTo_succ keep s.files k hlt]
            congr 1
            rw [e2]
            show _ = cutF (fileD s k) (keep.getD k 0)
            unfold cutF
            rw [hlf]
            simp
          refine ⟨?_, (be.out.trans (Below_beside hX hbr)).trans hst.2⟩
          have h := hst.1.shut
          rw [ecut] at h
          exact h
        have HS1 : Hid (∀ X, Below wr.heap.size wr X → OwnT (((X.setCell ⟨g, k * 3 + 1, none⟩ (.slice au lf cu)).setCell ⟨g, k * 3 + 2, none⟩ (.int .i64 (lf : Int))).drew) w1.heap.size T { s with files := cutTo keep s.files (k + 1) } ∧ Beside w1.heap.size T w3 (((X.setCell ⟨g, k * 3 + 1, none⟩ (.slice au lf cu)).setCell ⟨g, k * 3 + 2, none⟩ (.int .i64 (lf : Int))).drew)) := fun X hX => ⟨(HS0.out X hX).1.up (up_dr (Below.refl _ _)), (HS0.out X hX).2.drew⟩
        have nG : ¬ g = T := by
          have := own_blk_ne hO.2.2.2.1.1.2 hO.2.1 (by decide)
          simp [Value.ownBlock] at this
          exact this
        have nG2 : ¬ T = g := fun e => nG e.symm
        have nF : ¬ g = wr.heap.size := by have := (hO.2.2.2.1.1.2.lt g rfl).2; omega
        have nF2 : ¬ wr.heap.size = g := fun e => nF e.symm
        have hIn : (fileD s k).2.1.length ≤ 140737488355328 := by
          have hmem : m.getD k noF ∈ m := by simp [List.getD, him]
          have := (hO.2.2.2.1.2.1 _ hmem).2.2.1
          rw [e2] at this
          exact this
        have hcu : (fileD s k).2.1.length ≤ cu := by
          have hmem : m.getD k noF ∈ m := by simp [List.getD, him]
          have hr9 := hO.2.2.2.1.2.1 _ hmem
          obtain ⟨a9, c9, e9, h9⟩ := (Octs.own hr9.1 hr9.2.1).slice
          rw [eu, e2] at e9
          simp at e9
          rw [e2] at h9
          omega
        have hlc : lf ≤ (fileD s k).2.1.length := by omega
        rw [eu] at k1
        rw [e2] at k0 k2
        have f1z := fz (k * 3 + 1)
        have f2z := fz (k * 3 + 2)
        have hkc : k < keep.length → ∃ bk ok' ck', Value.slice ak keep.length ck = .slice (some ⟨bk, ok', none⟩) keep.length ck' ∧ wr.cell? ⟨bk, ok' + k, none⟩ = some (.int .i64 (keep.getD k 0)) := by
          intro h
          obtain ⟨bk, ok', ck', e, c, _⟩ := (HK.out.up UR.out).at k h
          exact ⟨bk, ok', ck', e, c⟩
        have hkd : ¬ k < keep.length → keep.getD k 0 = 0 := by
          intro h
          simp [List.getD, h]
        have HKc : Hid (k < keep.length → ∃ bk ok' ck', Value.slice ak keep.length ck = .slice (some ⟨bk, ok', none⟩) keep.length ck' ∧ wr.cell? ⟨bk, ok' + k, none⟩ = some (.int .i64 (keep.getD k 0))) := hkc
        have HKd : Hid (¬ k < keep.length → keep.getD k 0 = 0) := hkd
        obtain ⟨hsy0, hsy1⟩ := hsy
        clear hO hll hlf fz ef e2 eu hkc hkd
        generalize keep.getD k 0 = kv at *
        generalize fileD s k = y at *
        obtain ⟨yi, yd, ys⟩ := y
        simp only at k0 k1 k2 hsy0 hsy1 hlv hIn hcu hlc
        obtain ⟨dl, hdl⟩ : ∃ dl, dl = yd.length := ⟨_, rfl⟩
        rw [← hdl] at k1 hsy1 hlv hIn hcu hlc
        clear hdl
        have hlu : lf ≤ cu := by omega
        have hlu2 : (lf : Int) ≤ (cu : Int) := by omega
        have hl0 : (0 : Int) ≤ (lf : Int) := by omega
        obtain ⟨wq, hwq⟩ : ∃ wq, wq = wr.alloc (.cells #[.int .i64 yi, .slice au dl cu, .int .i64 ys] 86) := ⟨_, rfl⟩
        have HWq : Hid (wr.alloc (.cells #[.int .i64 yi, .slice au dl cu, .int .i64 ys] 86) = wq) := hwq.symm
        have uq : Hid (Below wr.heap.size wr wq) := by rw [hwq]; exact up_alloc _ _
        have bq : wq.heap[wr.heap.size]? = some (.cells #[.int .i64 yi, .slice au dl cu, .int .i64 ys] 86) := by rw [hwq]; exact blk_new _ _
        have qf := blk_cell bq 1 _ rfl
        have qs := blk_cell bq 2 _ rfl
        have qT := (uq.out.cell (World.block_lt_of_cell? _ _ q1)).trans q1
        have r1 := (uq.out.cell (World.block_lt_of_cell? _ _ k1)).trans k1
        have r2 := (uq.out.cell (World.block_lt_of_cell? _ _ k2)).trans k2
        have z1 : wq.frozen? ⟨g, k * 3 + 1, none⟩ = false := ((HOp.out.up uq.out).cells3 k him).2.2.2 _
        have z2 : wq.frozen? ⟨g, k * 3 + 2, none⟩ = false := ((HOp.out.up uq.out).cells3 k him).2.2.2 _
        clear hwq bq f1z f2z
        go_upto_region 8 with fail
        rw [HWq.out]
        clear HWq q1 k0 k1 k2
        by_cases hki : k < keep.length
        · have hki' : (k : Int) < (keep.length : Int) := by omega
          obtain ⟨bk, ok', ck', e9, ckk⟩ := HKc.out hki
          simp at e9
          obtain ⟨rfl, rfl⟩ := e9
          have qk := (uq.out.cell (World.block_lt_of_cell? _ _ ckk)).trans ckk
          clear ckk
          obtain ⟨d, hd⟩ : ∃ d, d = (dl : Int) - ys := ⟨_, rfl⟩
          have hwd : IntKind.i64.wrap ((dl : Int) - ys) = d := by rw [IntKind.wrap_i64]; omega
          rw [← hd] at hlv
          have hd0 : 0 ≤ d := by omega
          have HD : Hid (d = (dl : Int) - ys) := hd
          clear hd
          rcases (by omega : kv < 0 ∨ (kv = 0 ∧ 0 < d) ∨ (kv = 0 ∧ d = 0) ∨ (0 < kv ∧ kv < d) ∨ (kv = d ∧ 0 < d) ∨ (d < kv ∧ 0 < d) ∨ (0 < kv ∧ d = 0)) with c | ⟨c, c'⟩ | ⟨c, c'⟩ | ⟨c, c'⟩ | ⟨c, c'⟩ | ⟨c, c'⟩ | ⟨c, c'⟩
          · have c' : kv < d := by omega
            have hys : ys = (lf : Int) := by omega
            have hw0 : IntKind.i64.wrap (lf : Int) = (lf : Int) := by rw [IntKind.wrap_i64]; omega
            subst hys
            clear hlv HD
            go_upto_region 10 with fail
            go_quiet (fail)
            go_upto_region 11 with fail
            go_region_held3 (fun X => X.cell? ⟨T, 1, none⟩ = some (.slice (some ⟨g, 0, none⟩) m.length cf3) ∧ X.cell? ⟨wr.heap.size, 1, none⟩ = some (.slice au dl cu)) (first | (simp [go_sem, qT, qf]; done) | (simp [go_sem, qT, qf, nG, nG2, nF, nF2]; done)) (fail)
            all_goals
              go_wp2_with fail
              first | exact ⟨⟨k + 1, by omega, by go_num, (HS1.out _ uq.out).1, (HS1.out _ uq.out).2⟩, by simp [intOf]; omega⟩ | exact ⟨⟨k + 1, by omega, by go_num, (HS0.out _ (up_trans uq.out (up_drewN _ (nq + 1)))).1, (HS0.out _ (up_trans uq.out (up_drewN _ (nq + 1)))).2⟩, by simp [intOf]; omega⟩
          · have c2 : kv < d := by omega
            have hys : ys = (lf : Int) := by omega
            have hw0 : IntKind.i64.wrap (lf : Int) = (lf : Int) := by rw [IntKind.wrap_i64]; omega
            subst hys
            clear hlv HD
            subst c
            go_upto_region 10 with fail
            go_quiet (fail)
            go_upto_region 11 with fail
            go_region_held3 (fun X => X.cell? ⟨T, 1, none⟩ = some (.slice (some ⟨g, 0, none⟩) m.length cf3) ∧ X.cell? ⟨wr.heap.size, 1, none⟩ = some (.slice au dl cu)) (first | (simp [go_sem, qT, qf]; done) | (simp [go_sem, qT, qf, nG, nG2, nF, nF2]; done)) (fail)
            all_goals
              go_wp2_with fail
              first | exact ⟨⟨k + 1, by omega, by go_num, (HS1.out _ uq.out).1, (HS1.out _ uq.out).2⟩, by simp [intOf]; omega⟩ | exact ⟨⟨k + 1, by omega, by go_num, (HS0.out _ (up_trans uq.out (up_drewN _ (nq + 1)))).1, (HS0.out _ (up_trans uq.out (up_drewN _ (nq + 1)))).2⟩, by simp [intOf]; omega⟩
          · skip
            have hys : ys = (lf : Int) := by omega
            have hw0 : IntKind.i64.wrap (lf : Int) = (lf : Int) := by rw [IntKind.wrap_i64]; omega
            subst hys
            clear hlv HD
            subst c
            subst c'
            go_upto_region 10 with fail
            go_quiet (fail)
            go_upto_region 11 with fail
            go_region_held3 (fun X => X.cell? ⟨T, 1, none⟩ = some (.slice (some ⟨g, 0, none⟩) m.length cf3) ∧ X.cell? ⟨wr.heap.size, 1, none⟩ = some (.slice au dl cu)) (first | (simp [go_sem, qT, qf]; done) | (simp [go_sem, qT, qf, nG, nG2, nF, nF2]; done)) (fail)
            all_goals
              go_wp2_with fail
              first | exact ⟨⟨k + 1, by omega, by go_num, (HS1.out _ uq.out).1, (HS1.out _ uq.out).2⟩, by simp [intOf]; omega⟩ | exact ⟨⟨k + 1, by omega, by go_num, (HS0.out _ (up_trans uq.out (up_drewN _ (nq + 1)))).1, (HS0.out _ (up_trans uq.out (up_drewN _ (nq + 1)))).2⟩, by simp [intOf]; omega⟩
          · have hs : IntKind.i64.wrap (ys + kv) = (lf : Int) := by have := HD.out; rw [IntKind.wrap_i64]; omega
            clear hlv HD
            go_upto_region 10 with fail
            go_quiet (fail)
            go_upto_region 11 with fail
            go_region_held3 (fun X => X.cell? ⟨T, 1, none⟩ = some (.slice (some ⟨g, 0, none⟩) m.length cf3) ∧ X.cell? ⟨wr.heap.size, 1, none⟩ = some (.slice au dl cu)) (first | (simp [go_sem, qT, qf]; done) | (simp [go_sem, qT, qf, nG, nG2, nF, nF2]; done)) (fail)
            all_goals
              go_wp2_with fail
              first | exact ⟨⟨k + 1, by omega, by go_num, (HS1.out _ uq.out).1, (HS1.out _ uq.out).2⟩, by simp [intOf]; omega⟩ | exact ⟨⟨k + 1, by omega, by go_num, (HS0.out _ (up_trans uq.out (up_drewN _ (nq + 1)))).1, (HS0.out _ (up_trans uq.out (up_drewN _ (nq + 1)))).2⟩, by simp [intOf]; omega⟩
          · have hs : IntKind.i64.wrap (ys + d) = (lf : Int) := by have := HD.out; rw [IntKind.wrap_i64]; omega
            clear hlv HD
            subst c
            go_upto_region 10 with fail
            go_quiet (fail)
            go_upto_region 11 with fail
            go_region_held3 (fun X => X.cell? ⟨T, 1, none⟩ = some (.slice (some ⟨g, 0, none⟩) m.length cf3) ∧ X.cell? ⟨wr.heap.size, 1, none⟩ = some (.slice au dl cu)) (first | (simp [go_sem, qT, qf]; done) | (simp [go_sem, qT, qf, nG, nG2, nF, nF2]; done)) (fail)
            all_goals
              go_wp2_with fail
              first | exact ⟨⟨k + 1, by omega, by go_num, (HS1.out _ uq.out).1, (HS1.out _ uq.out).2⟩, by simp [intOf]; omega⟩ | exact ⟨⟨k + 1, by omega, by go_num, (HS0.out _ (up_trans uq.out (up_drewN _ (nq + 1)))).1, (HS0.out _ (up_trans uq.out (up_drewN _ (nq + 1)))).2⟩, by simp [intOf]; omega⟩
          · have hs : IntKind.i64.wrap (ys + d) = (lf : Int) := by have := HD.out; rw [IntKind.wrap_i64]; omega
            clear hlv HD
            go_upto_region 10 with fail
            go_quiet (fail)
            go_upto_region 11 with fail
            go_region_held3 (fun X => X.cell? ⟨T, 1, none⟩ = some (.slice (some ⟨g, 0, none⟩) m.length cf3) ∧ X.cell? ⟨wr.heap.size, 1, none⟩ = some (.slice au dl cu)) (first | (simp [go_sem, qT, qf]; done) | (simp [go_sem, qT, qf, nG, nG2, nF, nF2]; done)) (fail)
            all_goals
              go_wp2_with fail
              first | exact ⟨⟨k + 1, by omega, by go_num, (HS1.out _ uq.out).1, (HS1.out _ uq.out).2⟩, by simp [intOf]; omega⟩ | exact ⟨⟨k + 1, by omega, by go_num, (HS0.out _ (up_trans uq.out (up_drewN _ (nq + 1)))).1, (HS0.out _ (up_trans uq.out (up_drewN _ (nq + 1)))).2⟩, by simp [intOf]; omega⟩
          · skip
            have hys : ys = (lf : Int) := by omega
            have hw0 : IntKind.i64.wrap (lf : Int) = (lf : Int) := by rw [IntKind.wrap_i64]; omega
            subst hys
            clear hlv HD
            subst c'
            go_upto_region 10 with fail
            go_quiet (fail)
            go_upto_region 11 with fail
            go_region_held3 (fun X => X.cell? ⟨T, 1, none⟩ = some (.slice (some ⟨g, 0, none⟩) m.length cf3) ∧ X.cell? ⟨wr.heap.size, 1, none⟩ = some (.slice au dl cu)) (first | (simp [go_sem, qT, qf]; done) | (simp [go_sem, qT, qf, nG, nG2, nF, nF2]; done)) (fail)
            all_goals
              go_wp2_with fail
              first | exact ⟨⟨k + 1, by omega, by go_num, (HS1.out _ uq.out).1, (HS1.out _ uq.out).2⟩, by simp [intOf]; omega⟩ | exact ⟨⟨k + 1, by omega, by go_num, (HS0.out _ (up_trans uq.out (up_drewN _ (nq + 1)))).1, (HS0.out _ (up_trans uq.out (up_drewN _ (nq + 1)))).2⟩, by simp [intOf]; omega⟩
        · have hki' : ¬ (k : Int) < (keep.length : Int) := by omega
          have hkv := HKd.out hki
          have hys : ys = (lf : Int) := by rw [hkv] at hlv; omega
          subst hys
          clear hlv hkv
          go_upto_region 11 with fail
          go_region_held3 (fun X => X.cell? ⟨T, 1, none⟩ = some (.slice (some ⟨g, 0, none⟩) m.length cf3) ∧ X.cell? ⟨wr.heap.size, 1, none⟩ = some (.slice au dl cu)) (first | (simp [go_sem, qT, qf]; done) | (simp [go_sem, qT, qf, nG, nG2, nF, nF2]; done)) (fail)
          all_goals
            go_wp2_with fail
            first | exact ⟨⟨k + 1, by omega, by go_num, (HS1.out _ uq.out).1, (HS1.out _ uq.out).2⟩, by simp [intOf]; omega⟩ | exact ⟨⟨k + 1, by omega, by go_num, (HS0.out _ (up_trans uq.out (up_drewN _ (nq + 1)))).1, (HS0.out _ (up_trans uq.out (up_drewN _ (nq + 1)))).2⟩, by simp [intOf]; omega⟩
      · have hlt' : ¬ (k : Int) < (m.length : Int) := by have := HML.out; omega
        obtain rfl : k = s.files.length := by omega
        obtain ⟨t0, t1, t2, t3, t4⟩ := box_cells hO.2.1
        go_wp2_with fail
        refine (refOwnNames_any s.safe _ wr (NamesW.own hO.2.2.2.2.2.1) (by omega)).mono ?_
        rintro e w5 ⟨v5, rfl, on5, u5⟩
        obtain ⟨a5, c5, e5, _, _⟩ := (NamesW.own on5).len
        subst e5
        have st := hO.setNames hbr (grown_up u5 _) (.inr (fun g hg => (on5.2.2.lt g hg).1)) (on5.mono hbr)
        obtain ⟨y0, y1, y2, y3, y4⟩ := box_cells st.1
        have yf := blk_frozen st.1 2
        have OU6 : Hid (OwnU (w5.setCell ⟨T, 2, none⟩ (.slice a5 s.safe.length c5)) w1.heap.size (.agg #[.int .i64 s.cap, .slice af3 m.length cf3, .slice a5 s.safe.length c5, .slice as3 s.safe.length cs3, .int .i64 s.next]) { s with files := cutTo keep s.files s.files.length, names := s.safe }) := st.2.1.at (blk_set st.1 2 _)
        have bR6 : Hid ((w5.setCell ⟨T, 2, none⟩ (.slice a5 s.safe.length c5)).heap[N + 1]? = some (.cells #[.int .i64 0, .slice none 0 0, .slice none 0 0, .slice none 0 0, .int .i64 0] 25)) := st.2.2.low HTb.out (by have := HB1.out; omega) bR.out
        have U6 : Hid (Below w.heap.size w (w5.setCell ⟨T, 2, none⟩ (.slice a5 s.safe.length c5))) := UR.out.trans ((st.2.2.below HTb.out).mono U1.out.size)
        have hb6 : w1.heap.size ≤ (w5.setCell ⟨T, 2, none⟩ (.slice a5 s.safe.length c5)).heap.size := Nat.le_trans hbr st.2.2.size
        have HL6 : Hid (({ s with files := cutTo keep s.files s.files.length, names := s.safe } : St).files.length ≤ 257) := by show (cutTo keep s.files s.files.length).length ≤ 257; rw [cutTo_len]; omega
        clear st u5 on5 t0 t1 t2 t3 t4 q1
        simp only at y0 y1 y2 y3 y4
        go_wp2_with fail
        refine (refSwept_any { s with files := cutTo keep s.files s.files.length, names := s.safe } w1.heap.size _ _ OU6.out HL6.out hb6).mono ?_
        rintro e w7 ⟨v7, rfl, ou7, u7⟩
        obtain ⟨a7, n7, c7, a8, n8, c8, a9, n9, c9, ev7⟩ := ou7.shape
        subst ev7
        have bR7 := blk_up bR6.out u7
        have U7 : Hid (Below w.heap.size w w7) := up_trans U6.out u7
        have HO7 : Hid (OwnU w7 w1.heap.size (.agg #[.int .i64 s.cap, .slice a7 n7 c7, .slice a8 n8 c8, .slice a9 n9 c9, .int .i64 s.next]) (sweptOf { s with files := cutTo keep s.files s.files.length, names := s.safe })) := ou7
        clear ou7 u7
        obtain ⟨x0, x1, x2, x3, x4⟩ := box_cells bR7
        have f0 := blk_frozen bR7 0
        have f1 := blk_frozen bR7 1
        have f2 := blk_frozen bR7 2
        have f3 := blk_frozen bR7 3
        have f4 := blk_frozen bR7 4
        have b5 := set5_blk bR7 (.int .i64 s.cap) (.slice a7 n7 c7) (.slice a8 n8 c8) (.slice a9 n9 c9) (.int .i64 s.next)
        have HV5 : Hid (OwnU (set5 w7 (N + 1) (.int .i64 s.cap) (.slice a7 n7 c7) (.slice a8 n8 c8) (.slice a9 n9 c9) (.int .i64 s.next)) w1.heap.size (.agg #[.int .i64 s.cap, .slice a7 n7 c7, .slice a8 n8 c8, .slice a9 n9 c9, .int .i64 s.next]) (sweptOf { s with files := cutTo keep s.files s.files.length, names := s.safe })) := (HO7.out.put bR7).2
        clear bR7
        go_wp2_with fail
        refine bodyPost_ret (results_docs1 rfl _ _ rfl rfl b5) rfl ?_
        rw [HR.out]
        exact ⟨_, rfl, HV5.out.mono U1.out.size, U7.out.grown (set5_grown _ _ _ _ _ _ _) U7.out.size (fun j hj => by injection hj with hj; rw [← hj, HN.out]; omega)⟩
end Go.Proofs.Ytoceddpjkodfkaa

/- The walk of the law FilesTells. -/
namespace Go.Proofs.Ytoceddpjkodfkaa
open Go.RowKit
set_option linter.unusedVariables false
set_option linter.unusedSimpArgs false

set_option maxHeartbeats 8000000 in
set_option maxRecDepth 8000 in
theorem tells_walk (s : St) (a : Ac) (keep : List Int) (name : List Int) (v va vk : Value) (w : World) (hv : StW w v s) (ha : AcW w va a) (hk : IntsW w vk keep) (hna : OctL name)
    (h1 : s.files.length * 40 ≤ 140737488351232) (h2 : s.names.length * 24 ≤ 140737488351232) (h3 : s.safe.length * 24 ≤ 140737488351232) :
    Calls Try.prog 3 #[v, va, vk, .string (strOfNums name)] w fun e w' => e = .returned (.bool true) ∧ Below w.heap.size w w' := by
  obtain ⟨a0f, c0f, a0n, c0n, a0s, c0s, rfl⟩ := hv.form
  obtain ⟨vd, rfl, hd, hok⟩ := ha
  obtain ⟨ad, cd, evd, _⟩ := hd.slice
  subst evd
  obtain ⟨ak, ck, rfl, hck, hmk⟩ := hk.len
  have HV : Hid (StW w (.agg #[.int .i64 s.cap, .slice a0f s.files.length c0f, .slice a0n s.names.length c0n, .slice a0s s.safe.length c0s, .int .i64 s.next]) s) := hv
  have HK : Hid (IntsW w (.slice ak keep.length ck) keep) := hk
  have HD : Hid (Octs w (.slice ad a.data.length cd) a.data ∧ okAc a) := ⟨hd, hok⟩
  have HNm : Hid (OctL name) := hna
  have H1 : Hid (s.files.length * 40 ≤ 140737488351232 ∧ s.names.length * 24 ≤ 140737488351232 ∧ s.safe.length * 24 ≤ 140737488351232) := ⟨h1, h2, h3⟩
  have H2 : Hid (s.names.length + s.safe.length ≤ 9223372036854775807) := by unfold Hid; omega
  clear hv hk h1 h2 h3 hd hok hna hck hmk
  obtain ⟨N, hN⟩ : ∃ N, N = w.heap.size := ⟨_, rfl⟩
  obtain ⟨w0, hw0⟩ : ∃ w0, w0 = (w.alloc (.cells #[.int .i64 s.cap, .slice a0f s.files.length c0f, .slice a0n s.names.length c0n, .slice a0s s.safe.length c0s, .int .i64 s.next] 25)).alloc (.cells #[.int .i64 a.what, .string (strOfNums a.name), .string (strOfNums a.dest), .slice ad a.data.length cd] 28) := ⟨_, rfl⟩
  have HW0 : Hid ((w.alloc (.cells #[.int .i64 s.cap, .slice a0f s.files.length c0f, .slice a0n s.names.length c0n, .slice a0s s.safe.length c0s, .int .i64 s.next] 25)).alloc (.cells #[.int .i64 a.what, .string (strOfNums a.name), .string (strOfNums a.dest), .slice ad a.data.length cd] 28) = w0) := hw0.symm
  have HNe : Hid (N = w.heap.size ∧ w0.heap.size = N + 2) := by rw [hw0, hN]; exact ⟨rfl, by simp⟩
  have Uw0 : Hid (Below w.heap.size w (w0)) := by rw [hw0]; exact up_al (up_al (Below.refl _ _) _) _
  have BS0 : (w0).heap[N]? = some (.cells #[.int .i64 s.cap, .slice a0f s.files.length c0f, .slice a0n s.names.length c0n, .slice a0s s.safe.length c0s, .int .i64 s.next] 25) := by rw [hw0, hN]; exact blk_two0 w _ _
  have BA0 : (w0).heap[N + 1]? = some (.cells #[.int .i64 a.what, .string (strOfNums a.name), .string (strOfNums a.dest), .slice ad a.data.length cd] 28) := by rw [hw0, hN]; exact blk_two1 w _ _
  clear hw0
  go_enter Try.func3, Try.ntmps3
  go_wp2_with fail
  rw [HW0.out, ← hN]
  clear HW0 hN
  refine (of_any s _ w0 (HV.out.up Uw0.out) H1.out.1 H1.out.2.1 H1.out.2.2).mono ?_
  rintro e w1 ⟨v1, rfl, ov, u⟩
  obtain ⟨a1f, c1f, a1n, c1n, a1s, c1s, rfl⟩ := (StW.own ov).form
  have OX : Hid (OwnV w1 w0.heap.size (.agg #[.int .i64 s.cap, .slice a1f s.files.length c1f, .slice a1n s.names.length c1n, .slice a1s s.safe.length c1s, .int .i64 s.next]) s) := ov
  have hs01 := u.size
  have Uw1 : Hid (Below w.heap.size w (w1)) := up_trans Uw0.out (u)
  have BS1 := blk_up BS0 (u)
  have BA1 := blk_up BA0 (u)
  clear Uw0 BS0 BA0
  clear ov u
  have Uw2 : Hid (Below w.heap.size w (w1.alloc (.cells #[.int .i64 s.cap, .slice a1f s.files.length c1f, .slice a1n s.names.length c1n, .slice a1s s.safe.length c1s, .int .i64 s.next] 33))) := up_trans Uw1.out (up_alloc w1 (.cells #[.int .i64 s.cap, .slice a1f s.files.length c1f, .slice a1n s.names.length c1n, .slice a1s s.safe.length c1s, .int .i64 s.next] 33))
  have BS2 := blk_up BS1 (up_alloc w1 (.cells #[.int .i64 s.cap, .slice a1f s.files.length c1f, .slice a1n s.names.length c1n, .slice a1s s.safe.length c1s, .int .i64 s.next] 33))
  have BA2 := blk_up BA1 (up_alloc w1 (.cells #[.int .i64 s.cap, .slice a1f s.files.length c1f, .slice a1n s.names.length c1n, .slice a1s s.safe.length c1s, .int .i64 s.next] 33))
  clear Uw1 BS1 BA1
  have Ux2 : Hid (Below w1.heap.size w1 (w1.alloc (.cells #[.int .i64 s.cap, .slice a1f s.files.length c1f, .slice a1n s.names.length c1n, .slice a1s s.safe.length c1s, .int .i64 s.next] 33))) := up_alloc _ _
  have BX2 : (w1.alloc (.cells #[.int .i64 s.cap, .slice a1f s.files.length c1f, .slice a1n s.names.length c1n, .slice a1s s.safe.length c1s, .int .i64 s.next] 33)).heap[w1.heap.size]? = some (.cells #[.int .i64 s.cap, .slice a1f s.files.length c1f, .slice a1n s.names.length c1n, .slice a1s s.safe.length c1s, .int .i64 s.next] 33) := blk_new _ _
  have A0 := blk_cell BA2 0 _ rfl
  have A1 := blk_cell BA2 1 _ rfl
  have A2 := blk_cell BA2 2 _ rfl
  have A3 := blk_cell BA2 3 _ rfl
  have Uw3 : Hid (Below w.heap.size w ((w1.alloc (.cells #[.int .i64 s.cap, .slice a1f s.files.length c1f, .slice a1n s.names.length c1n, .slice a1s s.safe.length c1s, .int .i64 s.next] 33)).alloc (.cells #[.int .i64 a.what, .string (strOfNums a.name), .string (strOfNums a.dest), .slice ad a.data.length cd] 28))) := up_trans Uw2.out (up_alloc (w1.alloc (.cells #[.int .i64 s.cap, .slice a1f s.files.length c1f, .slice a1n s.names.length c1n, .slice a1s s.safe.length c1s, .int .i64 s.next] 33)) (.cells #[.int .i64 a.what, .string (strOfNums a.name), .string (strOfNums a.dest), .slice ad a.data.length cd] 28))
  have Ux3 : Hid (Below w1.heap.size w1 ((w1.alloc (.cells #[.int .i64 s.cap, .slice a1f s.files.length c1f, .slice a1n s.names.length c1n, .slice a1s s.safe.length c1s, .int .i64 s.next] 33)).alloc (.cells #[.int .i64 a.what, .string (strOfNums a.name), .string (strOfNums a.dest), .slice ad a.data.length cd] 28))) := up_trans Ux2.out (up_alloc (w1.alloc (.cells #[.int .i64 s.cap, .slice a1f s.files.length c1f, .slice a1n s.names.length c1n, .slice a1s s.safe.length c1s, .int .i64 s.next] 33)) (.cells #[.int .i64 a.what, .string (strOfNums a.name), .string (strOfNums a.dest), .slice ad a.data.length cd] 28))
  have BS3 := blk_up BS2 (up_alloc (w1.alloc (.cells #[.int .i64 s.cap, .slice a1f s.files.length c1f, .slice a1n s.names.length c1n, .slice a1s s.safe.length c1s, .int .i64 s.next] 33)) (.cells #[.int .i64 a.what, .string (strOfNums a.name), .string (strOfNums a.dest), .slice ad a.data.length cd] 28))
  have BA3 := blk_up BA2 (up_alloc (w1.alloc (.cells #[.int .i64 s.cap, .slice a1f s.files.length c1f, .slice a1n s.names.length c1n, .slice a1s s.safe.length c1s, .int .i64 s.next] 33)) (.cells #[.int .i64 a.what, .string (strOfNums a.name), .string (strOfNums a.dest), .slice ad a.data.length cd] 28))
  have BX3 := blk_up BX2 (up_alloc (w1.alloc (.cells #[.int .i64 s.cap, .slice a1f s.files.length c1f, .slice a1n s.names.length c1n, .slice a1s s.safe.length c1s, .int .i64 s.next] 33)) (.cells #[.int .i64 a.what, .string (strOfNums a.name), .string (strOfNums a.dest), .slice ad a.data.length cd] 28))
  clear Uw2 Ux2 BS2 BA2 BX2
  have BO3 : ((w1.alloc (.cells #[.int .i64 s.cap, .slice a1f s.files.length c1f, .slice a1n s.names.length c1n, .slice a1s s.safe.length c1s, .int .i64 s.next] 33)).alloc (.cells #[.int .i64 a.what, .string (strOfNums a.name), .string (strOfNums a.dest), .slice ad a.data.length cd] 28)).heap[w1.heap.size + 1]? = some (.cells #[.int .i64 a.what, .string (strOfNums a.name), .string (strOfNums a.dest), .slice ad a.data.length cd] 28) := by have := blk_new (w1.alloc (.cells #[.int .i64 s.cap, .slice a1f s.files.length c1f, .slice a1n s.names.length c1n, .slice a1s s.safe.length c1s, .int .i64 s.next] 33)) (.cells #[.int .i64 a.what, .string (strOfNums a.name), .string (strOfNums a.dest), .slice ad a.data.length cd] 28); simpa using this
  have A3' := blk_cell BA3 3 _ rfl
  go_wp2_with fail
  generalize (w1.alloc (.cells #[.int .i64 s.cap, .slice a1f s.files.length c1f, .slice a1n s.names.length c1n, .slice a1s s.safe.length c1s, .int .i64 s.next] 33)).alloc (.cells #[.int .i64 a.what, .string (strOfNums a.name), .string (strOfNums a.dest), .slice ad a.data.length cd] 28) = w2 at *
  clear A3' A0 A1 A2 A3
  refine (copyB_any a.data _ w2 (HD.out.1.up Uw3.out) HD.out.2.2.2.2.2.2).mono ?_
  rintro e w3 ⟨v3, rfl, ob, u⟩
  obtain ⟨a3, c3, e3, _⟩ := (Octs.own ob HD.out.1.1).slice
  subst e3
  have Uw4 : Hid (Below w.heap.size w (w3)) := up_trans Uw3.out (u)
  have Ux4 : Hid (Below w1.heap.size w1 (w3)) := up_trans Ux3.out (u)
  have BS4 := blk_up BS3 (u)
  have BA4 := blk_up BA3 (u)
  have BX4 := blk_up BX3 (u)
  have BO4 := blk_up BO3 (u)
  clear Uw3 Ux3 BS3 BA3 BX3 BO3
  have hs12 := (Ux4.out).size
  have hOlt := blk_lt BO4
  have obq := ob.far (grown_set w3 ⟨w1.heap.size + 1, 3, none⟩ (.slice a3 a.data.length c3)) (own_blk_ne ob BO4 (by decide))
  have HOb : Hid (OwnB (w3.setCell ⟨w1.heap.size + 1, 3, none⟩ (.slice a3 a.data.length c3)) w2.heap.size (.slice a3 a.data.length c3) a.data) := obq
  have y3 := blk_cell BO4 3 _ rfl
  have yf := blk_frozen BO4 3
  have y0 := blk_cell BO4 0 _ rfl
  have y1 := blk_cell BO4 1 _ rfl
  have y2 := blk_cell BO4 2 _ rfl
  have UwE : Hid (Below w.heap.size w (w3.setCell ⟨w1.heap.size + 1, 3, none⟩ (.slice a3 a.data.length c3))) := up_set Uw4.out _ (by have := Uw4.out.size; have := HNe.out; show w.heap.size ≤ w1.heap.size + 1; omega) _
  have UxE : Hid (Below w1.heap.size w1 (w3.setCell ⟨w1.heap.size + 1, 3, none⟩ (.slice a3 a.data.length c3))) := up_set Ux4.out _ (by show w1.heap.size ≤ w1.heap.size + 1; omega) _
  have BSE := blk_other BS4 (a := ⟨w1.heap.size + 1, 3, none⟩) (by show N ≠ w1.heap.size + 1; have := HNe.out; omega) (.slice a3 a.data.length c3)
  have BAE := blk_other BA4 (a := ⟨w1.heap.size + 1, 3, none⟩) (by show N + 1 ≠ w1.heap.size + 1; have := HNe.out; omega) (.slice a3 a.data.length c3)
  have BXE := blk_other BX4 (a := ⟨w1.heap.size + 1, 3, none⟩) (by show w1.heap.size ≠ w1.heap.size + 1; omega) (.slice a3 a.data.length c3)
  have BOE : (w3.setCell ⟨w1.heap.size + 1, 3, none⟩ (.slice a3 a.data.length c3)).heap[w1.heap.size + 1]? = some (.cells #[.int .i64 a.what, .string (strOfNums a.name), .string (strOfNums a.dest), .slice a3 a.data.length c3] 28) := blk_set BO4 3 (.slice a3 a.data.length c3)
  clear Uw4 Ux4 BS4 BA4 BX4 BO4 ob u obq
  have X0 := blk_cell BXE 0 _ rfl
  have X1 := blk_cell BXE 1 _ rfl
  have X2 := blk_cell BXE 2 _ rfl
  have X3 := blk_cell BXE 3 _ rfl
  have X4 := blk_cell BXE 4 _ rfl
  have O0 := blk_cell BOE 0 _ rfl
  have O1 := blk_cell BOE 1 _ rfl
  have O2 := blk_cell BOE 2 _ rfl
  have O3 := blk_cell BOE 3 _ rfl
  go_wp2_with fail
  generalize w3.setCell ⟨w1.heap.size + 1, 3, none⟩ (.slice a3 a.data.length c3) = w4 at *
  clear X0 X1 X2 X3 X4 O0 O1 O2 O3 y0 y1 y2 y3 yf
  have Uw5 := UwE
  have Ux5 := UxE
  have BS5 := BSE
  have BA5 := BAE
  have BX5 := BXE
  have BO5 := BOE
  clear UwE UxE BSE BAE BXE BOE
  have HAo : Hid (AcW w4 (.agg #[.int .i64 a.what, .string (strOfNums a.name), .string (strOfNums a.dest), .slice a3 a.data.length c3]) a) := ⟨_, rfl, Octs.own HOb.out HD.out.1.1, HD.out.2⟩
  have HOb4 : Hid (OwnB w4 w2.heap.size (.slice a3 a.data.length c3) a.data) := HOb
  clear HOb
  refine (do_any s a _ _ w4 ((StW.own OX.out).up Ux5.out) HAo.out H2.out).mono ?_
  rintro e w5 ⟨v5, rfl, ov, u⟩
  obtain ⟨D, hD⟩ : ∃ D, D = doP s a := ⟨_, rfl⟩
  have HDo : Hid (D = doP s a) := hD
  rw [← hD] at ov ⊢
  clear hD
  obtain ⟨d, de⟩ := D
  simp only at ov
  obtain ⟨a5f, c5f, a5n, c5n, a5s, c5s, rfl⟩ := (StW.own ov).form
  have OP : Hid (OwnV w5 w4.heap.size (.agg #[.int .i64 d.cap, .slice a5f d.files.length c5f, .slice a5n d.names.length c5n, .slice a5s d.safe.length c5s, .int .i64 d.next]) d) := ov
  have Uo5 : Hid (Below w4.heap.size w4 (w4)) := Below.refl _ _
  have Uw6 : Hid (Below w.heap.size w (w5)) := up_trans Uw5.out (u)
  have Ux6 : Hid (Below w1.heap.size w1 (w5)) := up_trans Ux5.out (u)
  have Uo6 : Hid (Below w4.heap.size w4 (w5)) := up_trans Uo5.out (u)
  have BS6 := blk_up BS5 (u)
  have BA6 := blk_up BA5 (u)
  have BX6 := blk_up BX5 (u)
  have BO6 := blk_up BO5 (u)
  clear Uw5 Ux5 Uo5 BS5 BA5 BX5 BO5
  clear ov u
  have Uw7 : Hid (Below w.heap.size w (w5.alloc (.cells #[.int .i64 d.cap, .slice a5f d.files.length c5f, .slice a5n d.names.length c5n, .slice a5s d.safe.length c5s, .int .i64 d.next] 33))) := up_trans Uw6.out (up_alloc w5 (.cells #[.int .i64 d.cap, .slice a5f d.files.length c5f, .slice a5n d.names.length c5n, .slice a5s d.safe.length c5s, .int .i64 d.next] 33))
  have Ux7 : Hid (Below w1.heap.size w1 (w5.alloc (.cells #[.int .i64 d.cap, .slice a5f d.files.length c5f, .slice a5n d.names.length c5n, .slice a5s d.safe.length c5s, .int .i64 d.next] 33))) := up_trans Ux6.out (up_alloc w5 (.cells #[.int .i64 d.cap, .slice a5f d.files.length c5f, .slice a5n d.names.length c5n, .slice a5s d.safe.length c5s, .int .i64 d.next] 33))
  have Uo7 : Hid (Below w4.heap.size w4 (w5.alloc (.cells #[.int .i64 d.cap, .slice a5f d.files.length c5f, .slice a5n d.names.length c5n, .slice a5s d.safe.length c5s, .int .i64 d.next] 33))) := up_trans Uo6.out (up_alloc w5 (.cells #[.int .i64 d.cap, .slice a5f d.files.length c5f, .slice a5n d.names.length c5n, .slice a5s d.safe.length c5s, .int .i64 d.next] 33))
  have BS7 := blk_up BS6 (up_alloc w5 (.cells #[.int .i64 d.cap, .slice a5f d.files.length c5f, .slice a5n d.names.length c5n, .slice a5s d.safe.length c5s, .int .i64 d.next] 33))
  have BA7 := blk_up BA6 (up_alloc w5 (.cells #[.int .i64 d.cap, .slice a5f d.files.length c5f, .slice a5n d.names.length c5n, .slice a5s d.safe.length c5s, .int .i64 d.next] 33))
  have BX7 := blk_up BX6 (up_alloc w5 (.cells #[.int .i64 d.cap, .slice a5f d.files.length c5f, .slice a5n d.names.length c5n, .slice a5s d.safe.length c5s, .int .i64 d.next] 33))
  have BO7 := blk_up BO6 (up_alloc w5 (.cells #[.int .i64 d.cap, .slice a5f d.files.length c5f, .slice a5n d.names.length c5n, .slice a5s d.safe.length c5s, .int .i64 d.next] 33))
  clear Uw6 Ux6 Uo6 BS6 BA6 BX6 BO6
  have Up7 : Hid (Below w5.heap.size w5 (w5.alloc (.cells #[.int .i64 d.cap, .slice a5f d.files.length c5f, .slice a5n d.names.length c5n, .slice a5s d.safe.length c5s, .int .i64 d.next] 33))) := up_alloc _ _
  have BP7 : (w5.alloc (.cells #[.int .i64 d.cap, .slice a5f d.files.length c5f, .slice a5n d.names.length c5n, .slice a5s d.safe.length c5s, .int .i64 d.next] 33)).heap[w5.heap.size]? = some (.cells #[.int .i64 d.cap, .slice a5f d.files.length c5f, .slice a5n d.names.length c5n, .slice a5s d.safe.length c5s, .int .i64 d.next] 33) := blk_new _ _
  have S0 := blk_cell BS7 0 _ rfl
  have S1 := blk_cell BS7 1 _ rfl
  have S2 := blk_cell BS7 2 _ rfl
  have S3 := blk_cell BS7 3 _ rfl
  have S4 := blk_cell BS7 4 _ rfl
  have A0 := blk_cell BA7 0 _ rfl
  have A1 := blk_cell BA7 1 _ rfl
  have A2 := blk_cell BA7 2 _ rfl
  have A3 := blk_cell BA7 3 _ rfl
  go_wp2_with fail
  generalize w5.alloc (.cells #[.int .i64 d.cap, .slice a5f d.files.length c5f, .slice a5n d.names.length c5n, .slice a5s d.safe.length c5s, .int .i64 d.next] 33) = w6 at *
  clear S0 S1 S2 S3 S4 A0 A1 A2 A3
  refine (refDo_any s a _ _ w6 (HV.out.up Uw7.out) ⟨_, rfl, HD.out.1.up Uw7.out, HD.out.2⟩).mono ?_
  rintro e w7 ⟨v7, rfl, ov, u⟩
  rw [← HDo.out] at ov ⊢
  simp only at ov ⊢
  obtain ⟨a7f, c7f, a7n, c7n, a7s, c7s, rfl⟩ := (StW.ownU ov).form
  have OQ : Hid (OwnU w7 w6.heap.size (.agg #[.int .i64 d.cap, .slice a7f d.files.length c7f, .slice a7n d.names.length c7n, .slice a7s d.safe.length c7s, .int .i64 d.next]) d) := ov
  have Uw8 : Hid (Below w.heap.size w (w7)) := up_trans Uw7.out (u)
  have Ux8 : Hid (Below w1.heap.size w1 (w7)) := up_trans Ux7.out (u)
  have Uo8 : Hid (Below w4.heap.size w4 (w7)) := up_trans Uo7.out (u)
  have Up8 : Hid (Below w5.heap.size w5 (w7)) := up_trans Up7.out (u)
  have BS8 := blk_up BS7 (u)
  have BA8 := blk_up BA7 (u)
  have BX8 := blk_up BX7 (u)
  have BO8 := blk_up BO7 (u)
  have BP8 := blk_up BP7 (u)
  clear Uw7 Ux7 Uo7 Up7 BS7 BA7 BX7 BO7 BP7
  clear ov u
  have Uw9 : Hid (Below w.heap.size w (w7.alloc (.cells #[.int .i64 d.cap, .slice a7f d.files.length c7f, .slice a7n d.names.length c7n, .slice a7s d.safe.length c7s, .int .i64 d.next] 25))) := up_trans Uw8.out (up_alloc w7 (.cells #[.int .i64 d.cap, .slice a7f d.files.length c7f, .slice a7n d.names.length c7n, .slice a7s d.safe.length c7s, .int .i64 d.next] 25))
  have Ux9 : Hid (Below w1.heap.size w1 (w7.alloc (.cells #[.int .i64 d.cap, .slice a7f d.files.length c7f, .slice a7n d.names.length c7n, .slice a7s d.safe.length c7s, .int .i64 d.next] 25))) := up_trans Ux8.out (up_alloc w7 (.cells #[.int .i64 d.cap, .slice a7f d.files.length c7f, .slice a7n d.names.length c7n, .slice a7s d.safe.length c7s, .int .i64 d.next] 25))
  have Uo9 : Hid (Below w4.heap.size w4 (w7.alloc (.cells #[.int .i64 d.cap, .slice a7f d.files.length c7f, .slice a7n d.names.length c7n, .slice a7s d.safe.length c7s, .int .i64 d.next] 25))) := up_trans Uo8.out (up_alloc w7 (.cells #[.int .i64 d.cap, .slice a7f d.files.length c7f, .slice a7n d.names.length c7n, .slice a7s d.safe.length c7s, .int .i64 d.next] 25))
  have Up9 : Hid (Below w5.heap.size w5 (w7.alloc (.cells #[.int .i64 d.cap, .slice a7f d.files.length c7f, .slice a7n d.names.length c7n, .slice a7s d.safe.length c7s, .int .i64 d.next] 25))) := up_trans Up8.out (up_alloc w7 (.cells #[.int .i64 d.cap, .slice a7f d.files.length c7f, .slice a7n d.names.length c7n, .slice a7s d.safe.length c7s, .int .i64 d.next] 25))
  have BS9 := blk_up BS8 (up_alloc w7 (.cells #[.int .i64 d.cap, .slice a7f d.files.length c7f, .slice a7n d.names.length c7n, .slice a7s d.safe.length c7s, .int .i64 d.next] 25))
  have BA9 := blk_up BA8 (up_alloc w7 (.cells #[.int .i64 d.cap, .slice a7f d.files.length c7f, .slice a7n d.names.length c7n, .slice a7s d.safe.length c7s, .int .i64 d.next] 25))
  have BX9 := blk_up BX8 (up_alloc w7 (.cells #[.int .i64 d.cap, .slice a7f d.files.length c7f, .slice a7n d.names.length c7n, .slice a7s d.safe.length c7s, .int .i64 d.next] 25))
  have BO9 := blk_up BO8 (up_alloc w7 (.cells #[.int .i64 d.cap, .slice a7f d.files.length c7f, .slice a7n d.names.length c7n, .slice a7s d.safe.length c7s, .int .i64 d.next] 25))
  have BP9 := blk_up BP8 (up_alloc w7 (.cells #[.int .i64 d.cap, .slice a7f d.files.length c7f, .slice a7n d.names.length c7n, .slice a7s d.safe.length c7s, .int .i64 d.next] 25))
  clear Uw8 Ux8 Uo8 Up8 BS8 BA8 BX8 BO8 BP8
  have Uq9 : Hid (Below w7.heap.size w7 (w7.alloc (.cells #[.int .i64 d.cap, .slice a7f d.files.length c7f, .slice a7n d.names.length c7n, .slice a7s d.safe.length c7s, .int .i64 d.next] 25))) := up_alloc _ _
  have BQ9 : (w7.alloc (.cells #[.int .i64 d.cap, .slice a7f d.files.length c7f, .slice a7n d.names.length c7n, .slice a7s d.safe.length c7s, .int .i64 d.next] 25)).heap[w7.heap.size]? = some (.cells #[.int .i64 d.cap, .slice a7f d.files.length c7f, .slice a7n d.names.length c7n, .slice a7s d.safe.length c7s, .int .i64 d.next] 25) := blk_new _ _
  have X0 := blk_cell BX9 0 _ rfl
  have X1 := blk_cell BX9 1 _ rfl
  have X2 := blk_cell BX9 2 _ rfl
  have X3 := blk_cell BX9 3 _ rfl
  have X4 := blk_cell BX9 4 _ rfl
  go_wp2_with fail
  generalize w7.alloc (.cells #[.int .i64 d.cap, .slice a7f d.files.length c7f, .slice a7n d.names.length c7n, .slice a7s d.safe.length c7s, .int .i64 d.next] 25) = w8 at *
  clear X0 X1 X2 X3 X4
  refine (crash_any s keep _ _ w8 ((StW.own OX.out).up Ux9.out) (HK.out.up Uw9.out) H2.out).mono ?_
  rintro e w9 ⟨v9, rfl, ov, u⟩
  obtain ⟨C, hC⟩ : ∃ C, C = crashP s keep := ⟨_, rfl⟩
  have HCr : Hid (C = crashP s keep) := hC
  rw [← hC] at ov ⊢
  clear hC
  obtain ⟨c, ce⟩ := C
  simp only at ov
  obtain ⟨a9f, c9f, a9n, c9n, a9s, c9s, rfl⟩ := (StW.own ov).form
  have OU : Hid (OwnV w9 w8.heap.size (.agg #[.int .i64 c.cap, .slice a9f c.files.length c9f, .slice a9n c.names.length c9n, .slice a9s c.safe.length c9s, .int .i64 c.next]) c) := ov
  have Uw10 : Hid (Below w.heap.size w (w9)) := up_trans Uw9.out (u)
  have Ux10 : Hid (Below w1.heap.size w1 (w9)) := up_trans Ux9.out (u)
  have Uo10 : Hid (Below w4.heap.size w4 (w9)) := up_trans Uo9.out (u)
  have Up10 : Hid (Below w5.heap.size w5 (w9)) := up_trans Up9.out (u)
  have Uq10 : Hid (Below w7.heap.size w7 (w9)) := up_trans Uq9.out (u)
  have BS10 := blk_up BS9 (u)
  have BA10 := blk_up BA9 (u)
  have BX10 := blk_up BX9 (u)
  have BO10 := blk_up BO9 (u)
  have BP10 := blk_up BP9 (u)
  have BQ10 := blk_up BQ9 (u)
  clear Uw9 Ux9 Uo9 Up9 Uq9 BS9 BA9 BX9 BO9 BP9 BQ9
  clear ov u
  have Uw11 : Hid (Below w.heap.size w (w9.alloc (.cells #[.int .i64 c.cap, .slice a9f c.files.length c9f, .slice a9n c.names.length c9n, .slice a9s c.safe.length c9s, .int .i64 c.next] 33))) := up_trans Uw10.out (up_alloc w9 (.cells #[.int .i64 c.cap, .slice a9f c.files.length c9f, .slice a9n c.names.length c9n, .slice a9s c.safe.length c9s, .int .i64 c.next] 33))
  have Ux11 : Hid (Below w1.heap.size w1 (w9.alloc (.cells #[.int .i64 c.cap, .slice a9f c.files.length c9f, .slice a9n c.names.length c9n, .slice a9s c.safe.length c9s, .int .i64 c.next] 33))) := up_trans Ux10.out (up_alloc w9 (.cells #[.int .i64 c.cap, .slice a9f c.files.length c9f, .slice a9n c.names.length c9n, .slice a9s c.safe.length c9s, .int .i64 c.next] 33))
  have Uo11 : Hid (Below w4.heap.size w4 (w9.alloc (.cells #[.int .i64 c.cap, .slice a9f c.files.length c9f, .slice a9n c.names.length c9n, .slice a9s c.safe.length c9s, .int .i64 c.next] 33))) := up_trans Uo10.out (up_alloc w9 (.cells #[.int .i64 c.cap, .slice a9f c.files.length c9f, .slice a9n c.names.length c9n, .slice a9s c.safe.length c9s, .int .i64 c.next] 33))
  have Up11 : Hid (Below w5.heap.size w5 (w9.alloc (.cells #[.int .i64 c.cap, .slice a9f c.files.length c9f, .slice a9n c.names.length c9n, .slice a9s c.safe.length c9s, .int .i64 c.next] 33))) := up_trans Up10.out (up_alloc w9 (.cells #[.int .i64 c.cap, .slice a9f c.files.length c9f, .slice a9n c.names.length c9n, .slice a9s c.safe.length c9s, .int .i64 c.next] 33))
  have Uq11 : Hid (Below w7.heap.size w7 (w9.alloc (.cells #[.int .i64 c.cap, .slice a9f c.files.length c9f, .slice a9n c.names.length c9n, .slice a9s c.safe.length c9s, .int .i64 c.next] 33))) := up_trans Uq10.out (up_alloc w9 (.cells #[.int .i64 c.cap, .slice a9f c.files.length c9f, .slice a9n c.names.length c9n, .slice a9s c.safe.length c9s, .int .i64 c.next] 33))
  have BS11 := blk_up BS10 (up_alloc w9 (.cells #[.int .i64 c.cap, .slice a9f c.files.length c9f, .slice a9n c.names.length c9n, .slice a9s c.safe.length c9s, .int .i64 c.next] 33))
  have BA11 := blk_up BA10 (up_alloc w9 (.cells #[.int .i64 c.cap, .slice a9f c.files.length c9f, .slice a9n c.names.length c9n, .slice a9s c.safe.length c9s, .int .i64 c.next] 33))
  have BX11 := blk_up BX10 (up_alloc w9 (.cells #[.int .i64 c.cap, .slice a9f c.files.length c9f, .slice a9n c.names.length c9n, .slice a9s c.safe.length c9s, .int .i64 c.next] 33))
  have BO11 := blk_up BO10 (up_alloc w9 (.cells #[.int .i64 c.cap, .slice a9f c.files.length c9f, .slice a9n c.names.length c9n, .slice a9s c.safe.length c9s, .int .i64 c.next] 33))
  have BP11 := blk_up BP10 (up_alloc w9 (.cells #[.int .i64 c.cap, .slice a9f c.files.length c9f, .slice a9n c.names.length c9n, .slice a9s c.safe.length c9s, .int .i64 c.next] 33))
  have BQ11 := blk_up BQ10 (up_alloc w9 (.cells #[.int .i64 c.cap, .slice a9f c.files.length c9f, .slice a9n c.names.length c9n, .slice a9s c.safe.length c9s, .int .i64 c.next] 33))
  clear Uw10 Ux10 Uo10 Up10 Uq10 BS10 BA10 BX10 BO10 BP10 BQ10
  have Uu11 : Hid (Below w9.heap.size w9 (w9.alloc (.cells #[.int .i64 c.cap, .slice a9f c.files.length c9f, .slice a9n c.names.length c9n, .slice a9s c.safe.length c9s, .int .i64 c.next] 33))) := up_alloc _ _
  have BU11 : (w9.alloc (.cells #[.int .i64 c.cap, .slice a9f c.files.length c9f, .slice a9n c.names.length c9n, .slice a9s c.safe.length c9s, .int .i64 c.next] 33)).heap[w9.heap.size]? = some (.cells #[.int .i64 c.cap, .slice a9f c.files.length c9f, .slice a9n c.names.length c9n, .slice a9s c.safe.length c9s, .int .i64 c.next] 33) := blk_new _ _
  have S0 := blk_cell BS11 0 _ rfl
  have S1 := blk_cell BS11 1 _ rfl
  have S2 := blk_cell BS11 2 _ rfl
  have S3 := blk_cell BS11 3 _ rfl
  have S4 := blk_cell BS11 4 _ rfl
  go_wp2_with fail
  generalize w9.alloc (.cells #[.int .i64 c.cap, .slice a9f c.files.length c9f, .slice a9n c.names.length c9n, .slice a9s c.safe.length c9s, .int .i64 c.next] 33) = w10 at *
  clear S0 S1 S2 S3 S4
  refine (refCrash_any s keep _ _ w10 (HV.out.up Uw11.out) (HK.out.up Uw11.out)).mono ?_
  rintro e w11 ⟨v11, rfl, ov, u⟩
  rw [← HCr.out] at ov ⊢
  simp only at ov ⊢
  obtain ⟨a11f, c11f, a11n, c11n, a11s, c11s, rfl⟩ := (StW.ownU ov).form
  have OV : Hid (OwnU w11 w10.heap.size (.agg #[.int .i64 c.cap, .slice a11f c.files.length c11f, .slice a11n c.names.length c11n, .slice a11s c.safe.length c11s, .int .i64 c.next]) c) := ov
  have Uw12 : Hid (Below w.heap.size w (w11)) := up_trans Uw11.out (u)
  have Ux12 : Hid (Below w1.heap.size w1 (w11)) := up_trans Ux11.out (u)
  have Uo12 : Hid (Below w4.heap.size w4 (w11)) := up_trans Uo11.out (u)
  have Up12 : Hid (Below w5.heap.size w5 (w11)) := up_trans Up11.out (u)
  have Uq12 : Hid (Below w7.heap.size w7 (w11)) := up_trans Uq11.out (u)
  have Uu12 : Hid (Below w9.heap.size w9 (w11)) := up_trans Uu11.out (u)
  have BS12 := blk_up BS11 (u)
  have BA12 := blk_up BA11 (u)
  have BX12 := blk_up BX11 (u)
  have BO12 := blk_up BO11 (u)
  have BP12 := blk_up BP11 (u)
  have BQ12 := blk_up BQ11 (u)
  have BU12 := blk_up BU11 (u)
  clear Uw11 Ux11 Uo11 Up11 Uq11 Uu11 BS11 BA11 BX11 BO11 BP11 BQ11 BU11
  clear ov u
  have Uw13 : Hid (Below w.heap.size w (w11.alloc (.cells #[.int .i64 c.cap, .slice a11f c.files.length c11f, .slice a11n c.names.length c11n, .slice a11s c.safe.length c11s, .int .i64 c.next] 25))) := up_trans Uw12.out (up_alloc w11 (.cells #[.int .i64 c.cap, .slice a11f c.files.length c11f, .slice a11n c.names.length c11n, .slice a11s c.safe.length c11s, .int .i64 c.next] 25))
  have Ux13 : Hid (Below w1.heap.size w1 (w11.alloc (.cells #[.int .i64 c.cap, .slice a11f c.files.length c11f, .slice a11n c.names.length c11n, .slice a11s c.safe.length c11s, .int .i64 c.next] 25))) := up_trans Ux12.out (up_alloc w11 (.cells #[.int .i64 c.cap, .slice a11f c.files.length c11f, .slice a11n c.names.length c11n, .slice a11s c.safe.length c11s, .int .i64 c.next] 25))
  have Uo13 : Hid (Below w4.heap.size w4 (w11.alloc (.cells #[.int .i64 c.cap, .slice a11f c.files.length c11f, .slice a11n c.names.length c11n, .slice a11s c.safe.length c11s, .int .i64 c.next] 25))) := up_trans Uo12.out (up_alloc w11 (.cells #[.int .i64 c.cap, .slice a11f c.files.length c11f, .slice a11n c.names.length c11n, .slice a11s c.safe.length c11s, .int .i64 c.next] 25))
  have Up13 : Hid (Below w5.heap.size w5 (w11.alloc (.cells #[.int .i64 c.cap, .slice a11f c.files.length c11f, .slice a11n c.names.length c11n, .slice a11s c.safe.length c11s, .int .i64 c.next] 25))) := up_trans Up12.out (up_alloc w11 (.cells #[.int .i64 c.cap, .slice a11f c.files.length c11f, .slice a11n c.names.length c11n, .slice a11s c.safe.length c11s, .int .i64 c.next] 25))
  have Uq13 : Hid (Below w7.heap.size w7 (w11.alloc (.cells #[.int .i64 c.cap, .slice a11f c.files.length c11f, .slice a11n c.names.length c11n, .slice a11s c.safe.length c11s, .int .i64 c.next] 25))) := up_trans Uq12.out (up_alloc w11 (.cells #[.int .i64 c.cap, .slice a11f c.files.length c11f, .slice a11n c.names.length c11n, .slice a11s c.safe.length c11s, .int .i64 c.next] 25))
  have Uu13 : Hid (Below w9.heap.size w9 (w11.alloc (.cells #[.int .i64 c.cap, .slice a11f c.files.length c11f, .slice a11n c.names.length c11n, .slice a11s c.safe.length c11s, .int .i64 c.next] 25))) := up_trans Uu12.out (up_alloc w11 (.cells #[.int .i64 c.cap, .slice a11f c.files.length c11f, .slice a11n c.names.length c11n, .slice a11s c.safe.length c11s, .int .i64 c.next] 25))
  have BS13 := blk_up BS12 (up_alloc w11 (.cells #[.int .i64 c.cap, .slice a11f c.files.length c11f, .slice a11n c.names.length c11n, .slice a11s c.safe.length c11s, .int .i64 c.next] 25))
  have BA13 := blk_up BA12 (up_alloc w11 (.cells #[.int .i64 c.cap, .slice a11f c.files.length c11f, .slice a11n c.names.length c11n, .slice a11s c.safe.length c11s, .int .i64 c.next] 25))
  have BX13 := blk_up BX12 (up_alloc w11 (.cells #[.int .i64 c.cap, .slice a11f c.files.length c11f, .slice a11n c.names.length c11n, .slice a11s c.safe.length c11s, .int .i64 c.next] 25))
  have BO13 := blk_up BO12 (up_alloc w11 (.cells #[.int .i64 c.cap, .slice a11f c.files.length c11f, .slice a11n c.names.length c11n, .slice a11s c.safe.length c11s, .int .i64 c.next] 25))
  have BP13 := blk_up BP12 (up_alloc w11 (.cells #[.int .i64 c.cap, .slice a11f c.files.length c11f, .slice a11n c.names.length c11n, .slice a11s c.safe.length c11s, .int .i64 c.next] 25))
  have BQ13 := blk_up BQ12 (up_alloc w11 (.cells #[.int .i64 c.cap, .slice a11f c.files.length c11f, .slice a11n c.names.length c11n, .slice a11s c.safe.length c11s, .int .i64 c.next] 25))
  have BU13 := blk_up BU12 (up_alloc w11 (.cells #[.int .i64 c.cap, .slice a11f c.files.length c11f, .slice a11n c.names.length c11n, .slice a11s c.safe.length c11s, .int .i64 c.next] 25))
  clear Uw12 Ux12 Uo12 Up12 Uq12 Uu12 BS12 BA12 BX12 BO12 BP12 BQ12 BU12
  have Uv13 : Hid (Below w11.heap.size w11 (w11.alloc (.cells #[.int .i64 c.cap, .slice a11f c.files.length c11f, .slice a11n c.names.length c11n, .slice a11s c.safe.length c11s, .int .i64 c.next] 25))) := up_alloc _ _
  have BV13 : (w11.alloc (.cells #[.int .i64 c.cap, .slice a11f c.files.length c11f, .slice a11n c.names.length c11n, .slice a11s c.safe.length c11s, .int .i64 c.next] 25)).heap[w11.heap.size]? = some (.cells #[.int .i64 c.cap, .slice a11f c.files.length c11f, .slice a11n c.names.length c11n, .slice a11s c.safe.length c11s, .int .i64 c.next] 25) := blk_new _ _
  have X0 := blk_cell BX13 0 _ rfl
  have X1 := blk_cell BX13 1 _ rfl
  have X2 := blk_cell BX13 2 _ rfl
  have X3 := blk_cell BX13 3 _ rfl
  have X4 := blk_cell BX13 4 _ rfl
  go_wp2_with fail
  generalize w11.alloc (.cells #[.int .i64 c.cap, .slice a11f c.files.length c11f, .slice a11n c.names.length c11n, .slice a11s c.safe.length c11s, .int .i64 c.next] 25) = w12 at *
  clear X0 X1 X2 X3 X4
  refine (read_any s name HNm.out _ w12 ((StW.own OX.out).up Ux13.out) H2.out).mono ?_
  rintro e w13 ⟨v13, rfl, ob, hoc, u⟩
  obtain ⟨Rr, hR⟩ : ∃ Rr, Rr = readP s name := ⟨_, rfl⟩
  have HRe : Hid (Rr = readP s name) := hR
  rw [← hR] at ob hoc ⊢
  clear hR
  obtain ⟨rd, re⟩ := Rr
  simp only at ob hoc
  have ocb := Octs.own ob hoc
  obtain ⟨a13, c13, e13, _⟩ := ocb.slice
  subst e13
  have HRb : Hid (Octs w13 (.slice a13 rd.length c13) rd) := ocb
  have Uw14 : Hid (Below w.heap.size w (w13)) := up_trans Uw13.out (u)
  have Ux14 : Hid (Below w1.heap.size w1 (w13)) := up_trans Ux13.out (u)
  have Uo14 : Hid (Below w4.heap.size w4 (w13)) := up_trans Uo13.out (u)
  have Up14 : Hid (Below w5.heap.size w5 (w13)) := up_trans Up13.out (u)
  have Uq14 : Hid (Below w7.heap.size w7 (w13)) := up_trans Uq13.out (u)
  have Uu14 : Hid (Below w9.heap.size w9 (w13)) := up_trans Uu13.out (u)
  have Uv14 : Hid (Below w11.heap.size w11 (w13)) := up_trans Uv13.out (u)
  have BS14 := blk_up BS13 (u)
  have BA14 := blk_up BA13 (u)
  have BX14 := blk_up BX13 (u)
  have BO14 := blk_up BO13 (u)
  have BP14 := blk_up BP13 (u)
  have BQ14 := blk_up BQ13 (u)
  have BU14 := blk_up BU13 (u)
  have BV14 := blk_up BV13 (u)
  clear Uw13 Ux13 Uo13 Up13 Uq13 Uu13 Uv13 BS13 BA13 BX13 BO13 BP13 BQ13 BU13 BV13
  clear ob hoc ocb u
  have Ur14 : Hid (Below w13.heap.size w13 (w13)) := Below.refl _ _
  have S0 := blk_cell BS14 0 _ rfl
  have S1 := blk_cell BS14 1 _ rfl
  have S2 := blk_cell BS14 2 _ rfl
  have S3 := blk_cell BS14 3 _ rfl
  have S4 := blk_cell BS14 4 _ rfl
  go_wp2_with fail
  clear S0 S1 S2 S3 S4
  refine (refRead_any s name HNm.out _ w13 (HV.out.up Uw14.out)).mono ?_
  rintro e w14 ⟨v14, rfl, ob, hoc, u⟩
  rw [← HRe.out] at ob hoc ⊢
  simp only at ob hoc ⊢
  have ocb := Octs.own ob hoc
  obtain ⟨a14, c14, e14, _⟩ := ocb.slice
  subst e14
  have HRc : Hid (Octs w14 (.slice a14 rd.length c14) rd) := ocb
  have Uw15 : Hid (Below w.heap.size w (w14)) := up_trans Uw14.out (u)
  have Ux15 : Hid (Below w1.heap.size w1 (w14)) := up_trans Ux14.out (u)
  have Uo15 : Hid (Below w4.heap.size w4 (w14)) := up_trans Uo14.out (u)
  have Up15 : Hid (Below w5.heap.size w5 (w14)) := up_trans Up14.out (u)
  have Uq15 : Hid (Below w7.heap.size w7 (w14)) := up_trans Uq14.out (u)
  have Uu15 : Hid (Below w9.heap.size w9 (w14)) := up_trans Uu14.out (u)
  have Uv15 : Hid (Below w11.heap.size w11 (w14)) := up_trans Uv14.out (u)
  have Ur15 : Hid (Below w13.heap.size w13 (w14)) := up_trans Ur14.out (u)
  have BS15 := blk_up BS14 (u)
  have BA15 := blk_up BA14 (u)
  have BX15 := blk_up BX14 (u)
  have BO15 := blk_up BO14 (u)
  have BP15 := blk_up BP14 (u)
  have BQ15 := blk_up BQ14 (u)
  have BU15 := blk_up BU14 (u)
  have BV15 := blk_up BV14 (u)
  clear Uw14 Ux14 Uo14 Up14 Uq14 Uu14 Uv14 Ur14 BS14 BA14 BX14 BO14 BP14 BQ14 BU14 BV14
  clear ob hoc ocb u
  have Uc15 : Hid (Below w14.heap.size w14 (w14)) := Below.refl _ _
  have X0 := blk_cell BX15 0 _ rfl
  have X1 := blk_cell BX15 1 _ rfl
  have X2 := blk_cell BX15 2 _ rfl
  have X3 := blk_cell BX15 3 _ rfl
  have X4 := blk_cell BX15 4 _ rfl
  go_wp2_with fail
  clear X0 X1 X2 X3 X4
  refine (list_any s _ w14 ((StW.own OX.out).up Ux15.out) H2.out).mono ?_
  rintro e w15 ⟨v15, rfl, ol, u⟩
  obtain ⟨L, hL⟩ : ∃ L, L = listP s := ⟨_, rfl⟩
  have HLi : Hid (L = listP s) := hL
  rw [← hL] at ol ⊢
  clear hL
  obtain ⟨ll, le⟩ := L
  simp only at ol
  have T15 : TextsW w15 v15 ll := Rws.own ol
  obtain ⟨a15, c15, e15, _, _⟩ := T15.len
  subst e15
  have HT1 : Hid (TextsW w15 (.slice a15 ll.length c15) ll) := T15
  have Uw16 : Hid (Below w.heap.size w (w15)) := up_trans Uw15.out (u)
  have Ux16 : Hid (Below w1.heap.size w1 (w15)) := up_trans Ux15.out (u)
  have Uo16 : Hid (Below w4.heap.size w4 (w15)) := up_trans Uo15.out (u)
  have Up16 : Hid (Below w5.heap.size w5 (w15)) := up_trans Up15.out (u)
  have Uq16 : Hid (Below w7.heap.size w7 (w15)) := up_trans Uq15.out (u)
  have Uu16 : Hid (Below w9.heap.size w9 (w15)) := up_trans Uu15.out (u)
  have Uv16 : Hid (Below w11.heap.size w11 (w15)) := up_trans Uv15.out (u)
  have Ur16 : Hid (Below w13.heap.size w13 (w15)) := up_trans Ur15.out (u)
  have Uc16 : Hid (Below w14.heap.size w14 (w15)) := up_trans Uc15.out (u)
  have BS16 := blk_up BS15 (u)
  have BA16 := blk_up BA15 (u)
  have BX16 := blk_up BX15 (u)
  have BO16 := blk_up BO15 (u)
  have BP16 := blk_up BP15 (u)
  have BQ16 := blk_up BQ15 (u)
  have BU16 := blk_up BU15 (u)
  have BV16 := blk_up BV15 (u)
  clear Uw15 Ux15 Uo15 Up15 Uq15 Uu15 Uv15 Ur15 Uc15 BS15 BA15 BX15 BO15 BP15 BQ15 BU15 BV15
  clear ol T15 u
  have Ul16 : Hid (Below w15.heap.size w15 (w15)) := Below.refl _ _
  have S0 := blk_cell BS16 0 _ rfl
  have S1 := blk_cell BS16 1 _ rfl
  have S2 := blk_cell BS16 2 _ rfl
  have S3 := blk_cell BS16 3 _ rfl
  have S4 := blk_cell BS16 4 _ rfl
  go_wp2_with fail
  clear S0 S1 S2 S3 S4
  refine (refList_any s _ w15 (HV.out.up Uw16.out)).mono ?_
  rintro e w16 ⟨v16, rfl, ol, u⟩
  rw [← HLi.out] at ol ⊢
  simp only at ol ⊢
  have T16 : TextsW w16 v16 ll := Rws.own ol
  obtain ⟨a16, c16, e16, _, _⟩ := T16.len
  subst e16
  have HT2 : Hid (TextsW w16 (.slice a16 ll.length c16) ll) := T16
  have Uw17 : Hid (Below w.heap.size w (w16)) := up_trans Uw16.out (u)
  have Ux17 : Hid (Below w1.heap.size w1 (w16)) := up_trans Ux16.out (u)
  have Uo17 : Hid (Below w4.heap.size w4 (w16)) := up_trans Uo16.out (u)
  have Up17 : Hid (Below w5.heap.size w5 (w16)) := up_trans Up16.out (u)
  have Uq17 : Hid (Below w7.heap.size w7 (w16)) := up_trans Uq16.out (u)
  have Uu17 : Hid (Below w9.heap.size w9 (w16)) := up_trans Uu16.out (u)
  have Uv17 : Hid (Below w11.heap.size w11 (w16)) := up_trans Uv16.out (u)
  have Ur17 : Hid (Below w13.heap.size w13 (w16)) := up_trans Ur16.out (u)
  have Uc17 : Hid (Below w14.heap.size w14 (w16)) := up_trans Uc16.out (u)
  have Ul17 : Hid (Below w15.heap.size w15 (w16)) := up_trans Ul16.out (u)
  have BS17 := blk_up BS16 (u)
  have BA17 := blk_up BA16 (u)
  have BX17 := blk_up BX16 (u)
  have BO17 := blk_up BO16 (u)
  have BP17 := blk_up BP16 (u)
  have BQ17 := blk_up BQ16 (u)
  have BU17 := blk_up BU16 (u)
  have BV17 := blk_up BV16 (u)
  clear Uw16 Ux16 Uo16 Up16 Uq16 Uu16 Uv16 Ur16 Uc16 Ul16 BS16 BA16 BX16 BO16 BP16 BQ16 BU16 BV16
  clear ol T16 u
  have Um17 : Hid (Below w16.heap.size w16 (w16)) := Below.refl _ _
  have P0 := blk_cell BP17 0 _ rfl
  have P1 := blk_cell BP17 1 _ rfl
  have P2 := blk_cell BP17 2 _ rfl
  have P3 := blk_cell BP17 3 _ rfl
  have P4 := blk_cell BP17 4 _ rfl
  have Q0 := blk_cell BQ17 0 _ rfl
  have Q1 := blk_cell BQ17 1 _ rfl
  have Q2 := blk_cell BQ17 2 _ rfl
  have Q3 := blk_cell BQ17 3 _ rfl
  have Q4 := blk_cell BQ17 4 _ rfl
  go_wp2_with fail
  clear P0 P1 P2 P3 P4 Q0 Q1 Q2 Q3 Q4
  refine (alike_self d _ _ w16 ((StW.own OP.out).up Up17.out) ((StW.ownU OQ.out).up Uq17.out)).mono ?_
  rintro e w17 ⟨rfl, u⟩
  have Uw18 : Hid (Below w.heap.size w (w17)) := up_trans Uw17.out (u)
  have Ux18 : Hid (Below w1.heap.size w1 (w17)) := up_trans Ux17.out (u)
  have Uo18 : Hid (Below w4.heap.size w4 (w17)) := up_trans Uo17.out (u)
  have Up18 : Hid (Below w5.heap.size w5 (w17)) := up_trans Up17.out (u)
  have Uq18 : Hid (Below w7.heap.size w7 (w17)) := up_trans Uq17.out (u)
  have Uu18 : Hid (Below w9.heap.size w9 (w17)) := up_trans Uu17.out (u)
  have Uv18 : Hid (Below w11.heap.size w11 (w17)) := up_trans Uv17.out (u)
  have Ur18 : Hid (Below w13.heap.size w13 (w17)) := up_trans Ur17.out (u)
  have Uc18 : Hid (Below w14.heap.size w14 (w17)) := up_trans Uc17.out (u)
  have Ul18 : Hid (Below w15.heap.size w15 (w17)) := up_trans Ul17.out (u)
  have Um18 : Hid (Below w16.heap.size w16 (w17)) := up_trans Um17.out (u)
  have BS18 := blk_up BS17 (u)
  have BA18 := blk_up BA17 (u)
  have BX18 := blk_up BX17 (u)
  have BO18 := blk_up BO17 (u)
  have BP18 := blk_up BP17 (u)
  have BQ18 := blk_up BQ17 (u)
  have BU18 := blk_up BU17 (u)
  have BV18 := blk_up BV17 (u)
  clear Uw17 Ux17 Uo17 Up17 Uq17 Uu17 Uv17 Ur17 Uc17 Ul17 Um17 BS17 BA17 BX17 BO17 BP17 BQ17 BU17 BV17
  clear u
  go_wp2_with fail
  refine (num_any de _).mono ?_
  rintro e wz ⟨rfl, hwz⟩
  have hwz' : w17 = wz := hwz.symm
  clear hwz
  subst hwz'
  have U0 := blk_cell BU18 0 _ rfl
  have U1 := blk_cell BU18 1 _ rfl
  have U2 := blk_cell BU18 2 _ rfl
  have U3 := blk_cell BU18 3 _ rfl
  have U4 := blk_cell BU18 4 _ rfl
  have V0 := blk_cell BV18 0 _ rfl
  have V1 := blk_cell BV18 1 _ rfl
  have V2 := blk_cell BV18 2 _ rfl
  have V3 := blk_cell BV18 3 _ rfl
  have V4 := blk_cell BV18 4 _ rfl
  go_wp2_with fail
  clear U0 U1 U2 U3 U4 V0 V1 V2 V3 V4
  refine (alike_self c _ _ w17 ((StW.own OU.out).up Uu18.out) ((StW.ownU OV.out).up Uv18.out)).mono ?_
  rintro e w18 ⟨rfl, u⟩
  have Uw19 : Hid (Below w.heap.size w (w18)) := up_trans Uw18.out (u)
  have Ux19 : Hid (Below w1.heap.size w1 (w18)) := up_trans Ux18.out (u)
  have Uo19 : Hid (Below w4.heap.size w4 (w18)) := up_trans Uo18.out (u)
  have Up19 : Hid (Below w5.heap.size w5 (w18)) := up_trans Up18.out (u)
  have Uq19 : Hid (Below w7.heap.size w7 (w18)) := up_trans Uq18.out (u)
  have Uu19 : Hid (Below w9.heap.size w9 (w18)) := up_trans Uu18.out (u)
  have Uv19 : Hid (Below w11.heap.size w11 (w18)) := up_trans Uv18.out (u)
  have Ur19 : Hid (Below w13.heap.size w13 (w18)) := up_trans Ur18.out (u)
  have Uc19 : Hid (Below w14.heap.size w14 (w18)) := up_trans Uc18.out (u)
  have Ul19 : Hid (Below w15.heap.size w15 (w18)) := up_trans Ul18.out (u)
  have Um19 : Hid (Below w16.heap.size w16 (w18)) := up_trans Um18.out (u)
  have BS19 := blk_up BS18 (u)
  have BA19 := blk_up BA18 (u)
  have BX19 := blk_up BX18 (u)
  have BO19 := blk_up BO18 (u)
  have BP19 := blk_up BP18 (u)
  have BQ19 := blk_up BQ18 (u)
  have BU19 := blk_up BU18 (u)
  have BV19 := blk_up BV18 (u)
  clear Uw18 Ux18 Uo18 Up18 Uq18 Uu18 Uv18 Ur18 Uc18 Ul18 Um18 BS18 BA18 BX18 BO18 BP18 BQ18 BU18 BV18
  clear u
  go_wp2_with fail
  refine (num_any ce _).mono ?_
  rintro e wz ⟨rfl, hwz⟩
  have hwz' : w18 = wz := hwz.symm
  clear hwz
  subst hwz'
  go_wp2_with fail
  refine (same_any rd rd _ _ w18 (HRb.out.up Ur19.out) (HRc.out.up Uc19.out)).mono ?_
  rintro e wz ⟨rfl, hwz⟩
  have hwz' : w18 = wz := hwz.symm
  clear hwz
  subst hwz'
  have hdt : decide (rd = rd) = true := by simp
  rw [hdt]
  clear hdt
  go_wp2_with fail
  refine (num_any re _).mono ?_
  rintro e wz ⟨rfl, hwz⟩
  have hwz' : w18 = wz := hwz.symm
  clear hwz
  subst hwz'
  go_wp2_with fail
  refine (sameTexts_self ll _ _ w18 (HT1.out.up Ul19.out) (HT2.out.up Um19.out)).mono ?_
  rintro e w19 ⟨rfl, u⟩
  have Uw20 : Hid (Below w.heap.size w (w19)) := up_trans Uw19.out (u)
  have Ux20 : Hid (Below w1.heap.size w1 (w19)) := up_trans Ux19.out (u)
  have Uo20 : Hid (Below w4.heap.size w4 (w19)) := up_trans Uo19.out (u)
  have Up20 : Hid (Below w5.heap.size w5 (w19)) := up_trans Up19.out (u)
  have Uq20 : Hid (Below w7.heap.size w7 (w19)) := up_trans Uq19.out (u)
  have Uu20 : Hid (Below w9.heap.size w9 (w19)) := up_trans Uu19.out (u)
  have Uv20 : Hid (Below w11.heap.size w11 (w19)) := up_trans Uv19.out (u)
  have Ur20 : Hid (Below w13.heap.size w13 (w19)) := up_trans Ur19.out (u)
  have Uc20 : Hid (Below w14.heap.size w14 (w19)) := up_trans Uc19.out (u)
  have Ul20 : Hid (Below w15.heap.size w15 (w19)) := up_trans Ul19.out (u)
  have Um20 : Hid (Below w16.heap.size w16 (w19)) := up_trans Um19.out (u)
  have BS20 := blk_up BS19 (u)
  have BA20 := blk_up BA19 (u)
  have BX20 := blk_up BX19 (u)
  have BO20 := blk_up BO19 (u)
  have BP20 := blk_up BP19 (u)
  have BQ20 := blk_up BQ19 (u)
  have BU20 := blk_up BU19 (u)
  have BV20 := blk_up BV19 (u)
  clear Uw19 Ux19 Uo19 Up19 Uq19 Uu19 Uv19 Ur19 Uc19 Ul19 Um19 BS19 BA19 BX19 BO19 BP19 BQ19 BU19 BV19
  clear u
  go_wp2_with fail
  refine (num_any le _).mono ?_
  rintro e wz ⟨rfl, hwz⟩
  have hwz' : w19 = wz := hwz.symm
  clear hwz
  subst hwz'
  have S0 := blk_cell BS20 0 _ rfl
  have S1 := blk_cell BS20 1 _ rfl
  have S2 := blk_cell BS20 2 _ rfl
  have S3 := blk_cell BS20 3 _ rfl
  have S4 := blk_cell BS20 4 _ rfl
  have X0 := blk_cell BX20 0 _ rfl
  have X1 := blk_cell BX20 1 _ rfl
  have X2 := blk_cell BX20 2 _ rfl
  have X3 := blk_cell BX20 3 _ rfl
  have X4 := blk_cell BX20 4 _ rfl
  have A0 := blk_cell BA20 0 _ rfl
  have A1 := blk_cell BA20 1 _ rfl
  have A2 := blk_cell BA20 2 _ rfl
  have A3 := blk_cell BA20 3 _ rfl
  have O0 := blk_cell BO20 0 _ rfl
  have O1 := blk_cell BO20 1 _ rfl
  have O2 := blk_cell BO20 2 _ rfl
  have O3 := blk_cell BO20 3 _ rfl
  have pS0 := cell_up S0
  have pS1 := cell_up S1
  have pS2 := cell_up S2
  have pS3 := cell_up S3
  have pS4 := cell_up S4
  have pX0 := cell_up X0
  have pX1 := cell_up X1
  have pX2 := cell_up X2
  have pX3 := cell_up X3
  have pX4 := cell_up X4
  have pA0 := cell_up A0
  have pA1 := cell_up A1
  have pA2 := cell_up A2
  have pA3 := cell_up A3
  have pO0 := cell_up O0
  have pO1 := cell_up O1
  have pO2 := cell_up O2
  have pO3 := cell_up O3
  obtain ⟨ck0, hck0⟩ : ∃ ck0, ck0 = errOf (checkP s) := ⟨_, rfl⟩
  have HCk : Hid (ck0 = errOf (checkP s)) := hck0
  clear hck0
  have K1 : Hid (∀ q : UpW w19, Calls Try.prog 23 #[.agg #[.int .i64 s.cap, .slice a1f s.files.length c1f, .slice a1n s.names.length c1n, .slice a1s s.safe.length c1s, .int .i64 s.next]] q.val fun e w' => e = .returned (.int .i64 ck0) ∧ Below q.val.heap.size q.val w') := by
    intro q
    rw [HCk.out]
    exact check_any s _ q.val ((StW.own OX.out).up (up_trans Ux20.out q.up)) H2.out
  have K2 : Hid (∀ q : UpW w19, Calls Try.prog 20 #[.int .i64 ck0] q.val fun e w' => e = .returned (.int .i64 ck0) ∧ Below q.val.heap.size q.val w') := by
    intro q
    refine (num_any ck0 q.val).mono ?_
    rintro e w' ⟨rfl, rfl⟩
    exact ⟨rfl, Below.refl _ _⟩
  have K3 : Hid (∀ q : UpW w19, Calls Try.prog 24 #[.agg #[.int .i64 s.cap, .slice a0f s.files.length c0f, .slice a0n s.names.length c0n, .slice a0s s.safe.length c0s, .int .i64 s.next]] q.val fun e w' => e = .returned (.int .i64 ck0) ∧ Below q.val.heap.size q.val w') := by
    intro q
    rw [HCk.out]
    exact refCheck_any s _ q.val (HV.out.up (up_trans Uw20.out q.up))
  have K4 : Hid (∀ q : UpW w19, Calls Try.prog 19 #[.agg #[.int .i64 s.cap, .slice a1f s.files.length c1f, .slice a1n s.names.length c1n, .slice a1s s.safe.length c1s, .int .i64 s.next], .agg #[.int .i64 s.cap, .slice a0f s.files.length c0f, .slice a0n s.names.length c0n, .slice a0s s.safe.length c0s, .int .i64 s.next]] q.val fun e w' => e = .returned (.int .i64 0) ∧ Below q.val.heap.size q.val w') := by
    intro q
    exact alike_self s _ _ q.val ((StW.own OX.out).up (up_trans Ux20.out q.up)) (HV.out.up (up_trans Uw20.out q.up))
  have K5 : Hid (∀ q : UpW w19, Calls Try.prog 21 #[.slice a3 a.data.length c3, .slice ad a.data.length cd] q.val fun e w' => e = .returned (.bool true) ∧ Below q.val.heap.size q.val w') := by
    intro q
    refine (same_any a.data a.data _ _ q.val ((Octs.own HOb4.out HD.out.1.1).up (up_trans Uo20.out q.up)) (HD.out.1.up (up_trans Uw20.out q.up))).mono ?_
    rintro e w' ⟨rfl, rfl⟩
    have hdt : decide (a.data = a.data) = true := by simp
    rw [hdt]
    exact ⟨rfl, Below.refl _ _⟩
  have K6 : Hid (∀ q : UpW w19, Calls Try.prog 25 #[] q.val fun e w' => e = .returned (.bool true) ∧ Below q.val.heap.size q.val w') := fun q => alive_any q.val
  go_upto_region 14 with fail
  refine wp_region_up (by kernel_rfl) (by kernel_rfl) ?_
  repeat
    (with_reducible refine wpQuiet_step (fun K hK => ?_)
     go_simp
     first
       | (refine hK _ ?_; clear hK K)
       | (apply Exists.intro; refine ⟨fun _ => ?_, hK _ ?_⟩; first | (go_at_call 23; with_reducible refine calls_up (K1.out _)) | (go_at_call 20; with_reducible refine calls_up (K2.out _)) | (go_at_call 24; with_reducible refine calls_up (K3.out _)) | (go_at_call 19; with_reducible refine calls_up (K4.out _)) | (go_at_call 21; with_reducible refine calls_up (K5.out _)) | (go_at_call 25; with_reducible refine calls_up (K6.out _)); clear hK K))
  with_reducible refine wpQuiet_nil ?_
  intro _ hw'
  obtain ⟨q, hw''⟩ := hw'
  subst hw''
  go_wp2_with fail
  go_ret
  exact ⟨rfl, up_trans Uw20.out q.up⟩

theorem tells_text (s : St) (a : Ac) (keep : List Int) (t : ByteArray) (v va vk : Value) (w : World) (hv : StW w v s) (ha : AcW w va a) (hk : IntsW w vk keep)
    (h1 : s.files.length * 40 ≤ 140737488351232) (h2 : s.names.length * 24 ≤ 140737488351232) (h3 : s.safe.length * 24 ≤ 140737488351232) :
    Calls Try.prog 3 #[v, va, vk, .string t] w fun e w' => e = .returned (.bool true) ∧ Below w.heap.size w w' := by
  have h := tells_walk s a keep (nums t) v va vk w hv ha hk (nums_octet t) h1 h2 h3
  rw [str_nums] at h
  exact h
end Go.Proofs.Ytoceddpjkodfkaa

/- The law FilesTells holds: for every state, act, slice of numbers and text the Go function returns true, and what was handed in reads as before; no conditions. -/
namespace Go.Proofs.Ytoceddpjkodfkaa.filesTells
open Go.ChangeShapes Go.WideShapes Go.ChangeAt Go.RowKit
open Go.ChangeMaps (open_string shut_string)
set_option linter.unusedVariables false

theorem own : ownKnob Try.prog.godebug = none := by kernel_rfl
theorem laidOut : laidOutB Try.prog = true := by kernel_rfl

set_option maxRecDepth 100000 in
theorem lifted (os : Os) (started : os.Started) (H : Type) (enc : TypeId × Value → H) :
    ReturnsInHanded {} Try.checked os 3 .any (Rows.filesTellsSpec.pre6 enc Try.prog Try.f3 Rows.filesTellsRow.domain false) (Rows.filesTellsSpec.post enc Try.prog Try.f3 false true false false) := by
  refine returnsInHanded_of_change_sized (C := Try.checked) own started (by kernel_rfl) Try.func3
    (ChangeSpec.witness6 (enc := enc) (C := Try.checked) false ⟨#[], #[.agg #[.int .i64 0, .slice none 0 0, .slice none 0 0, .slice none 0 0, .int .i64 0], .agg #[.int .i64 0, .string ⟨#[]⟩, .string ⟨#[]⟩, .slice none 0 0], .slice none 0 0, .string ⟨#[]⟩], []⟩ 8 (by kernel_rfl) (by kernel_rfl) (by kernel_rfl) (by kernel_rfl)) ?_
  intro W base args ds gs before hval0 hW hcnd hsz0 _
  have hsz : (DataW.weightsEach Try.prog (Try.f3.params.toList ++ Rows.filesTellsSpec.plain.varTypes Try.prog) (ds ++ gs)).all (· ≤ reachBytes) = true := hsz0
  have hval : ∀ (j : Nat) t v, Try.f3.params[j]? = some t → args[j]? = some v → Value.okWide Try.prog W .any base t v := hval0
  have hW' := hW
  obtain ⟨p, q, hA0, hV, rfl, hfz, hnd⟩ := hW
  have hA : DataW.TrodAll enc Try.prog W 0 (fun _ => true) true Try.f3.params.toList args.toList ds p := hA0
  rw [Try.params3] at hA hval hsz
  obtain ⟨v0, vs0, d0, ds0, p0, q0, hargs, rfl, rfl, h0, r0⟩ := trodAll_cons hA
  obtain ⟨v1, vs1, d1, ds1, p1, q1, rfl, rfl, rfl, h1, r1⟩ := trodAll_cons r0
  obtain ⟨v2, vs2, d2, ds2, p2, q2, rfl, rfl, rfl, h2, r2⟩ := trodAll_cons r1
  obtain ⟨v3, vs3, d3, ds3, p3, q3, rfl, rfl, rfl, h3, r3⟩ := trodAll_cons r2
  obtain ⟨rfl, rfl, rfl⟩ := trodAll_nil r3
  obtain rfl : args = #[v0, v1, v2, v3] := by cases args; simp_all
  obtain ⟨rfl, rfl⟩ := trodVars_none hV
  have k0 := h0
  have lt0 : ∀ x ∈ p0, x.block < W.heap.size := by obtain ⟨m, hm⟩ := k0; exact DataW.trod_lt m _ _ _ hm
  obtain ⟨s0, w0, b0, c0, e0⟩ := arg_state (hval 0 25 v0 rfl rfl) h0 (fun m hm => by simpa using List.all_eq_true.1 hsz m (DataW.weights_mem_each (j := 0) (t := 25) rfl rfl m hm))
  have k1 := h1
  have lt1 : ∀ x ∈ p1, x.block < W.heap.size := by obtain ⟨m, hm⟩ := k1; exact DataW.trod_lt m _ _ _ hm
  obtain ⟨l1, w1⟩ := arg_act (hval 1 28 v1 rfl rfl) h1 (fun m hm => by simpa using List.all_eq_true.1 hsz m (DataW.weights_mem_each (j := 1) (t := 28) rfl rfl m hm))
  have k2 := h2
  have lt2 : ∀ x ∈ p2, x.block < W.heap.size := by obtain ⟨m, hm⟩ := k2; exact DataW.trod_lt m _ _ _ hm
  obtain ⟨a2, len2, cap2, rfl⟩ := okWide_slice Try.underlying29 (hval 2 29 v2 rfl rfl)
  obtain ⟨l2, w2⟩ := arg_ints h2
  obtain ⟨t3, rfl, rfl, rfl, w3⟩ := open_string Try.underlying9 (hval 3 9 v3 rfl rfl) h3
  clear hA0 hval0
  refine (tells_text s0 l1 l2 t3 _ _ _ W w0 w1 w2 b0 c0 e0).mono fun e W' ⟨he, bel⟩ => ?_
  subst he
  exact ⟨_, rfl, _, _, _, [], _, [], hW', trodAll_mk1 (shut_bool Try.underlying4 _), (trodAll_cons_mk (Below.trod laidOut (by kernel_rfl) (of_decide_eq_true (by kernel_rfl)) k0 bel lt0) (trodAll_cons_mk (Below.trod laidOut (by kernel_rfl) (of_decide_eq_true (by kernel_rfl)) k1 bel lt1) (trodAll_cons_mk (Below.trod laidOut (by kernel_rfl) (of_decide_eq_true (by kernel_rfl)) k2 bel lt2) (trodAll_cons_mk (shut_string Try.underlying9 w3) trodAll_mk0)))), rfl, bel.frame _, fun h => by cases h⟩

theorem over : Rows.filesTellsRow.holds Try.pinned (OpenSpec.ofChange Rows.filesTellsSpec) :=
  OpenClaim.holds_of_wide 3 Try.f3 rfl rfl rfl rfl rfl rfl rfl ⟨rfl, rfl, rfl, rfl, rfl⟩ rfl rfl rfl rfl rfl (by kernel_rfl) Try.func3 (by kernel_rfl)
    (of_decide_eq_true (by kernel_rfl)) (by unfold Func.isWrapper; first | (rw [if_pos (by decide +kernel)]; kernel_rfl) | (rw [if_neg (by decide +kernel)]; exact ⟨rfl, rfl⟩))
    (fun os started H enc _ => lifted os started H enc)
end Go.Proofs.Ytoceddpjkodfkaa.filesTells

namespace Go.Proofs.Ytoceddpjkodfkaa
theorem filesTells_holds : Rows.FilesTellsSaid := filesTells.over
#print axioms filesTells_holds
end Go.Proofs.Ytoceddpjkodfkaa
